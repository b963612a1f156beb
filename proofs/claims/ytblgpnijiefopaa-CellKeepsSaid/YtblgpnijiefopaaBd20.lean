/-
  Layer 4: plain mathematics of assembling; a new array's parts over any kind of blocks.
  Layer 4: what assemble's loop keeps of its data: of no elements, of numbers, of items.
  Layer 4: what assemble's loop keeps of its data: of items; the three together.
  Layer 4: the program's assemble. (Written by wip/gen/cell-asm.py.)
  Layer 4: the program's Pad.
  Layer 4: plain mathematics: an array padded to its own shape is itself.
  Layer 4: plain mathematics: the cells of an array, joined, are the array.
  Layer 4: plain mathematics: the cells of a valid array are valid.
  Layer 4: the program's Join. (Written by wip/gen/cell-join.py.)
-/
import Derived.Test.YtblgpnijiefopaaBd16
import Derived.Test.YtblgpnijiefopaaBd17
import Derived.Test.YtblgpnijiefopaaBd18
import Derived.Test.YtblgpnijiefopaaBd19
import Derived.Deep.RegionHeldLaw
import Derived.Deep.DeepCutAuto
import Derived.Handy
namespace Go.Proofs.Ytblgpnijiefopaa.Shape
open Go.RowKit
set_option linter.unusedVariables false

def fillZ (k : Int) : Int := if k = 2 then 32 else 0
def fillI : Arr := .mk 1 [0] [] []
theorem allF_num {k : Int} (hk : k = 1 ∨ k = 2) (sh : List Int) : allF k sh = .mk k sh (List.replicate (prN sh) (fillZ k)) [] := by
  rcases hk with rfl | rfl
  · show Arr.mk 1 sh (cyc0 [0] 0 (prN sh)) (cyc0 [] zeroA (prN sh)) = _
    rw [cyc0, if_neg (by simp), cyc0, if_pos rfl, cyc_const]; rfl
  · show Arr.mk 2 sh (cyc0 [32] 0 (prN sh)) (cyc0 [] zeroA (prN sh)) = _
    rw [cyc0, if_neg (by simp), cyc0, if_pos rfl, cyc_const]; rfl
theorem allF_box (sh : List Int) : allF 3 sh = .mk 3 sh [] (List.replicate (prN sh) fillI) := by
  show Arr.mk 3 sh (cyc0 [] 0 (prN sh)) (cyc0 [.mk 1 [0] [] []] zeroA (prN sh)) = _
  rw [cyc0, if_pos rfl, cyc0, if_neg (by simp), cyc_const]; rfl
/-- One cell, padded: its numbers, its items. -/
def partN (k : Int) (cm : List Int) (A : Arr) : List Int := padS (fillZ k) cm (leadS A.shape cm.length) A.nums
def partI (cm : List Int) (A : Arr) : List Arr := padS fillI cm (leadS A.shape cm.length) A.items
def asmA (k : Int) (sh cm : List Int) (l : List Arr) : Arr := .mk k sh (if k = 3 then [] else (l.map (partN k cm)).flatten) (if k = 3 then (l.map (partI cm)).flatten else [])
/-- What assemble gives. -/
def asmS (k : Int) (fr cm : List Int) (l : List Arr) : Arr × Int := if rightB (fr ++ cm) = true then outA (asmA k (fr ++ cm) cm l) else (zeroA, 21)
/-- A cell that may be assembled: valid in its parts, and no longer than the common shape. -/
structure Okay (k : Int) (cm : List Int) (A : Arr) : Prop where
  kind : A.kind = k
  nn : NN A.shape
  len : A.shape.length ≤ cm.length
  fit : prN cm ≠ 0 → fits cm (leadS A.shape cm.length)
  nums : k ≠ 3 → A.nums.length = prN A.shape ∧ A.items = []
  items : k = 3 → A.items.length = prN A.shape ∧ A.nums = []
/-- The first i cells done, the others still fill. -/
def curS {α : Type} (z : α) (f : Arr → List α) (l : List Arr) (i m : Nat) : List α := ((l.take i).map f).flatten ++ List.replicate ((l.length - i) * m) z
theorem curS_zero {α : Type} (z : α) (f : Arr → List α) (l : List Arr) (m : Nat) : curS z f l 0 m = List.replicate (l.length * m) z := by simp [curS]
theorem curS_end {α : Type} (z : α) (f : Arr → List α) (l : List Arr) (m : Nat) : curS z f l l.length m = (l.map f).flatten := by simp [curS]
theorem done_len {α : Type} (f : Arr → List α) (m : Nat) : ∀ (l : List Arr), (∀ A ∈ l, (f A).length = m) → (l.map f).flatten.length = l.length * m
  | [], _ => by simp
  | A :: r, h => by
    rw [List.map_cons, List.flatten_cons, List.length_append, done_len f m r (fun B hB => h B (by simp [hB])), h A (by simp), List.length_cons, Nat.succ_mul, Nat.add_comm]
theorem curS_split {α : Type} (z : α) (f : Arr → List α) (l : List Arr) (i m : Nat) (hi : i < l.length) : curS z f l i m = ((l.take i).map f).flatten ++ (List.replicate m z ++ List.replicate ((l.length - (i + 1)) * m) z) := by
  rw [curS, List.replicate_append_replicate, show (l.length - i) * m = m + (l.length - (i + 1)) * m by rw [show l.length - i = (l.length - (i + 1)) + 1 by omega, Nat.succ_mul, Nat.add_comm]]
theorem curS_step {α : Type} (z : α) (f : Arr → List α) (l : List Arr) (i m : Nat) (hi : i < l.length) : curS z f l (i + 1) m = ((l.take i).map f).flatten ++ (f l[i] ++ List.replicate ((l.length - (i + 1)) * m) z) := by
  rw [curS, take_snocA hi, List.map_append, List.flatten_append]
  simp

/-- A new array's parts, over blocks of a kind. -/
def SplitOn (P : Nat → Prop) (w : World) (v : Value) (A : Arr) : Prop :=
  ∃ (M G : Nat) (a1 : Option Addr) (c1 : Nat) (a2 : Option Addr) (c2 : Nat) (a3 : Option Addr) (c3 : Nat), v = .agg #[.int .i64 A.kind, .slice a1 A.shape.length c1, .slice a2 A.nums.length c2, .slice a3 A.items.length c3] ∧
    (-9223372036854775808 ≤ A.kind ∧ A.kind ≤ 9223372036854775807) ∧ IntsOn (fun g => (P g ∧ Thaw w g ∧ g ≠ G) ∧ g < M) w a1 c1 A.shape ∧ IntsOn (fun g => (P g ∧ Thaw w g ∧ g ≠ G) ∧ M ≤ g) w a2 c2 A.nums ∧ A.items.length ≤ c3 ∧ c3 ≤ 9223372036854775807 ∧
    (A.items ≠ [] → a3 = some ⟨G, 0, none⟩ ∧ P G ∧ ∃ qs : List Value, w.heap[G]? = some (.cells qs.toArray 26 (0, 0)) ∧ (∀ u ∈ qs, u.oneCell' = true) ∧ Quads (fun g => P g ∧ Thaw w g ∧ g ≠ G) w qs A.items)
theorem SplitAt.on {B : Nat} {R : Nat → Prop} {w w' : World} {v : Value} {A : Arr} (h : SplitAt B w v A) (hk : ∀ g, B ≤ g → g < w.heap.size → R g ∧ w'.heap[g]? = w.heap[g]?) : SplitOn R w' v A := by
  obtain ⟨M, G, a1, c1, a2, c2, a3, c3, hv, hkd, i1, i2, h1, h2, row⟩ := h
  have kp : ∀ g, Apart B G w g → g < w.heap.size → (R g ∧ Thaw w' g ∧ g ≠ G) ∧ ∀ o, w'.cell? ⟨g, o, none⟩ = w.cell? ⟨g, o, none⟩ := fun g hg hl =>
    ⟨⟨(hk g hg.1 hl).1, thaw_of hg.2.1 (hk g hg.1 hl).2, hg.2.2⟩, fun o => World.cell?_of_block (hk g hg.1 hl).2⟩
  refine ⟨M, G, a1, c1, a2, c2, a3, c3, hv, hkd, i1.keep fun g hg hl => ⟨⟨(kp g hg.1 hl).1, hg.2⟩, (kp g hg.1 hl).2⟩, i2.keep fun g hg hl => ⟨⟨(kp g hg.1 hl).1, hg.2⟩, (kp g hg.1 hl).2⟩, h1, h2, fun hne => ?_⟩
  obtain ⟨e, hB, qs, q1, q2, q3⟩ := row hne
  have hG := hk G hB (lt_of_heap q1)
  exact ⟨e, hG.1, qs, hG.2.trans q1, q2, q3.keep kp⟩
end Go.Proofs.Ytblgpnijiefopaa.Shape

namespace Go.Proofs.Ytblgpnijiefopaa.Shape
open Go.RowKit
set_option linter.unusedVariables false

structure AsmC (w : World) (S0 R8 : Nat) (c0 c1 c2 c3 : Value) (W : World) : Prop where
  siz : S0 ≤ W.heap.size
  bel : Below w.heap.size w W
  q8 : Quad W R8 c0 c1 c2 c3
  q6 : Quad W w.heap.size (.int .i64 0) (.slice none 0 0) (.slice none 0 0) (.slice none 0 0)
theorem AsmC.below {w W W' : World} {S0 R8 : Nat} {c0 c1 c2 c3 : Value} (h : AsmC w S0 R8 c0 c1 c2 c3 W) (hb : Below W.heap.size W W') : AsmC w S0 R8 c0 c1 c2 c3 W' := ⟨Nat.le_trans h.siz hb.size, Below.then h.bel hb, h.q8.below hb, h.q6.below hb⟩
theorem AsmC.but {w W W' : World} {S0 R8 b : Nat} {c0 c1 c2 c3 : Value} (h : AsmC w S0 R8 c0 c1 c2 c3 W) (hb : But b W W') (h1 : w.heap.size < b) (h2 : b ≠ R8) : AsmC w S0 R8 c0 c1 c2 c3 W' :=
  ⟨Nat.le_trans h.siz hb.size, h.bel.trans (hb.below (by omega) h.bel.size), h.q8.keep (hb.block _ (Ne.symm h2) h.q8.lt), h.q6.keep (hb.block _ (by omega) h.q6.lt)⟩

/-- What the loop goes by: D i ahead of round i, D' i behind its numbers. -/
structure AsmD (w : World) (S0 R8 : Nat) (k8 : Int) (s8 : Option Addr) (l8 d8 : Nat) (n8 : Option Addr) (m8 e8 : Nat) (i8 : Option Addr) (j8 f8 : Nat) (m : Nat) (ca : Option Addr) (cc : Nat) (cm : List Int) (l : List Arr) (R : Arr) (D D' : Nat → World → Prop) (vI vA : Nat → Value) : Prop where
  keepC : ∀ i W, D i W → AsmC w S0 R8 (.int .i64 k8) (.slice s8 l8 d8) (.slice n8 m8 e8) (.slice i8 j8 f8) W
  keepC' : ∀ i W, D' i W → AsmC w S0 R8 (.int .i64 k8) (.slice s8 l8 d8) (.slice n8 m8 e8) (.slice i8 j8 f8) W
  bel : ∀ i W W', D i W → Below W.heap.size W W' → D i W'
  bel' : ∀ i W W', D' i W → Below W.heap.size W W' → D' i W'
  bI : ∀ i, i < l.length → ∀ W, Calls Try.prog 47 #[.slice n8 m8 e8, .int .i64 (i : Int), .int .i64 (m : Int)] W fun e w' => e = .returned (vI i) ∧ W = w'
  bA : ∀ i, i < l.length → ∀ W, Calls Try.prog 48 #[.slice i8 j8 f8, .int .i64 (i : Int), .int .i64 (m : Int)] W fun e w' => e = .returned (vA i) ∧ W = w'
  pI : ∀ i (hi : i < l.length) W (k' : Int) (sa : Option Addr) (ls sc : Nat) (na : Option Addr) (ln nc : Nat) (ia : Option Addr) (li ic : Nat), ArrAt w (.agg #[.int .i64 k', .slice sa ls sc, .slice na ln nc, .slice ia li ic]) l[i] → D i W →
    Calls Try.prog 76 #[vI i, .slice ca cm.length cc, .slice na ln nc, .slice sa ls sc] W fun e w' => e = .returned (.tuple #[]) ∧ D' i w' ∧ ∃ t, t < S0 ∧ But t W w'
  pA : ∀ i (hi : i < l.length) W (k' : Int) (sa : Option Addr) (ls sc : Nat) (na : Option Addr) (ln nc : Nat) (ia : Option Addr) (li ic : Nat), ArrAt w (.agg #[.int .i64 k', .slice sa ls sc, .slice na ln nc, .slice ia li ic]) l[i] → D' i W →
    Calls Try.prog 77 #[vA i, .slice ca cm.length cc, .slice ia li ic, .slice sa ls sc] W fun e w' => e = .returned (.tuple #[]) ∧ D (i + 1) w' ∧ ∃ t, t < S0 ∧ But t W w'
  fin : ∀ W, D l.length W → ArrAt W (.agg #[.int .i64 k8, .slice s8 l8 d8, .slice n8 m8 e8, .slice i8 j8 f8]) R

theorem placeI_zero (pa ta ea fa : Option Addr) (pc K tc M ec KF fc : Nat) (w : World) :
    Calls Try.prog 76 #[.slice pa 0 pc, .slice ta K tc, .slice ea M ec, .slice fa KF fc] w fun e w' => e = .returned (.tuple #[]) ∧ w = w' := by
  obtain ⟨N, hN⟩ : ∃ N : Nat, 0 = N := ⟨_, rfl⟩
  rw [hN]
  have e1 : ((N : Int) == 0) = true := by simp [← hN]
  clear hN
  go_enter Try.func76, Try.ntmps76
  go_wp2_with fail
  first | go_end0 | refine bodyPost_ret (results_none rfl _ _ _) rfl ?_
  exact ⟨rfl, rfl⟩
theorem placeA_zero (pa ta ea fa : Option Addr) (pc K tc M ec KF fc : Nat) (w : World) :
    Calls Try.prog 77 #[.slice pa 0 pc, .slice ta K tc, .slice ea M ec, .slice fa KF fc] w fun e w' => e = .returned (.tuple #[]) ∧ w = w' := by
  obtain ⟨N, hN⟩ : ∃ N : Nat, 0 = N := ⟨_, rfl⟩
  rw [hN]
  have e1 : ((N : Int) == 0) = true := by simp [← hN]
  clear hN
  go_enter Try.func77, Try.ntmps77
  go_wp2_with fail
  first | go_end0 | refine bodyPost_ret (results_none rfl _ _ _) rfl ?_
  exact ⟨rfl, rfl⟩
theorem IntsAt.onNe {w W : World} {b : Nat} {a : Option Addr} {c : Nat} {xs : List Int} (h : IntsAt w a c xs) (hb : w.heap.size ≤ b) (hW : Below w.heap.size w W) : IntsOn (fun g => g ≠ b) W a c xs := by
  have hB := h.below hW
  refine ⟨hB, fun hne ad e => ?_⟩
  obtain ⟨-, -, -, b', o', ha, hc⟩ := h
  rw [ha hne] at e
  cases e
  have := cell_lt (hc 0 (List.length_pos_iff.2 hne))
  show b' ≠ b
  omega
/-- No elements at all. -/
theorem asm_zero {w wc : World} {R8 m : Nat} {k : Int} {s8 n8 i8 : Option Addr} {d8 e8 f8 : Nat} {ca : Option Addr} {cc : Nat} {cm sh : List Int} {l : List Arr} {R : Arr} (hC : AsmC w wc.heap.size R8 (.int .i64 k) (.slice s8 sh.length d8) (.slice n8 0 e8) (.slice i8 0 f8) wc) (hs : IntsAt wc s8 d8 sh)
    (hk : -9223372036854775808 ≤ k ∧ k ≤ 9223372036854775807) (he : e8 ≤ 9223372036854775807) (hf : f8 ≤ 9223372036854775807) (hR : R = .mk k sh [] []) :
    ∃ D D' vI vA, AsmD w wc.heap.size R8 k s8 sh.length d8 n8 0 e8 i8 0 f8 m ca cc cm l R D D' vI vA ∧ D 0 wc := by
  refine ⟨fun _ W => AsmC w wc.heap.size R8 (.int .i64 k) (.slice s8 sh.length d8) (.slice n8 0 e8) (.slice i8 0 f8) W ∧ IntsAt W s8 d8 sh, fun _ W => AsmC w wc.heap.size R8 (.int .i64 k) (.slice s8 sh.length d8) (.slice n8 0 e8) (.slice i8 0 f8) W ∧ IntsAt W s8 d8 sh,
    fun _ => .slice none 0 0, fun _ => .slice none 0 0, ⟨fun _ _ h => h.1, fun _ _ h => h.1, fun _ _ _ h hb => ⟨h.1.below hb, h.2.below hb⟩, fun _ _ _ h hb => ⟨h.1.below hb, h.2.below hb⟩, ?_, ?_, ?_, ?_, ?_⟩, hC, hs⟩
  · exact fun i _ W => blockI_nil n8 e8 i m W
  · exact fun i _ W => blockA_nil i8 f8 i m W
  · intro i hi W k' sa ls sc na ln nc ia li ic _ hD
    refine (placeI_zero _ _ _ _ _ _ _ _ _ _ _ W).mono ?_
    rintro e w' ⟨rfl, rfl⟩
    exact ⟨rfl, hD, w.heap.size, hC.q6.lt, But.refl _ _⟩
  · intro i hi W k' sa ls sc na ln nc ia li ic _ hD
    refine (placeA_zero _ _ _ _ _ _ _ _ _ _ _ W).mono ?_
    rintro e w' ⟨rfl, rfl⟩
    exact ⟨rfl, hD, w.heap.size, hC.q6.lt, But.refl _ _⟩
  · rintro W ⟨-, hi⟩
    rw [hR, ArrAt]
    exact ⟨s8, d8, n8, e8, i8, f8, rfl, hk, hi, ⟨Nat.zero_le _, he, fun x hx => absurd hx (by simp), 0, 0, fun hn => absurd rfl hn, fun i hi => absurd hi (by simp)⟩, Nat.zero_le _, hf, 0, 0, fun h => absurd rfl h, by rw [ArrsAt]; trivial⟩

theorem area_of_cells {w : World} {b o : Nat} {cs : Array Value} {T : TypeId} {xs : List Value} (hg : w.heap[b]? = some (.cells cs T (0, 0))) (hne : xs ≠ []) (hc : ∀ i (h : i < xs.length), w.cell? ⟨b, o + i, none⟩ = some xs[i]) :
    AreaAt w b T (cs.toList.take o) xs (cs.toList.drop (o + xs.length)) ∧ (cs.toList.take o).length = o := by
  have hcs : ∀ i (h : i < xs.length), cs.toList[o + i]? = some xs[i] := by
    intro i hi
    have := hc i hi
    simp only [World.cell?, hg] at this
    rw [Array.getElem?_toList]
    simpa using this
  have hlen : o + xs.length ≤ cs.toList.length := by
    have h0 : 0 < xs.length := List.length_pos_iff.2 hne
    have := (List.getElem?_eq_some_iff.1 (hcs (xs.length - 1) (by omega))).1
    omega
  have hmid : (cs.toList.drop o).take xs.length = xs := by
    apply List.ext_getElem
    · simp only [List.length_take, List.length_drop]; omega
    · intro i h1 h2
      rw [List.getElem_take, List.getElem_drop]
      have := hcs i h2
      rw [List.getElem?_eq_getElem (by omega)] at this
      exact Option.some.inj this
  refine ⟨?_, by rw [List.length_take]; omega⟩
  unfold AreaAt
  rw [hg]
  congr 2
  have : cs.toList = cs.toList.take o ++ (xs ++ cs.toList.drop (o + xs.length)) := by
    conv => lhs; rw [← List.take_append_drop o cs.toList]
    congr 1
    conv => lhs; rw [← List.take_append_drop xs.length (cs.toList.drop o)]
    rw [hmid, List.drop_drop]
  rw [← this]
def unit1 (x : Int) : List Value := [.int .i64 x]
theorem unit1_flat (xs : List Int) : (xs.map unit1).flatten = xs.map (Value.int .i64) := by
  induction xs with
  | nil => rfl
  | cons x r ih => rw [List.map_cons, List.flatten_cons, ih]; rfl
theorem unit1_units (xs : List Int) : Units 1 (xs.map unit1) := fun e he => by
  obtain ⟨x, -, rfl⟩ := List.mem_map.1 he
  exact ⟨rfl, fun v hv => by simp [unit1] at hv; subst hv; rfl⟩
theorem padS_units {z : Int} (cm fs nums : List Int) (h : cm.length = fs.length) (hn : NN cm) : padT cm fs (nums.map unit1) ((List.replicate (prN cm) z).map unit1) = (padS z cm fs nums).map unit1 := by
  rw [padT_map, padT_rep z cm fs nums h hn]
theorem ints_src {w W : World} {b : Nat} {a : Option Addr} {c : Nat} {xs : List Int} (h : IntsAt w a c xs) (hb : w.heap.size ≤ b) (hW : Below w.heap.size w W) : ElsAt W b a ((xs.map unit1).flatten) := by
  intro hne
  rw [unit1_flat] at hne ⊢
  have hx : xs ≠ [] := fun e => hne (by rw [e]; rfl)
  obtain ⟨-, -, -, be, oe, ha, hc⟩ := h
  have h0 := cell_lt (hc 0 (List.length_pos_iff.2 hx))
  refine ⟨be, oe, ha hx, by omega, fun j v hj => ?_⟩
  have hjl : j < xs.length := by
    have := (List.getElem?_eq_some_iff.1 hj).1
    simpa using this
  rw [hW.cell h0, hc j hjl, ← hj, List.getElem?_map, List.getElem?_eq_getElem hjl]
  rfl
/-- Numbers. -/
theorem asm_nums {w wc : World} {R8 m bN oN : Nat} {k z : Int} {s8 i8 : Option Addr} {d8 e8 f8 : Nat} {ca : Option Addr} {cc : Nat} {cm sh : List Int} {l : List Arr} {cs : Array Value} {T : TypeId} (hz : z = fillZ k)
    (hC : AsmC w wc.heap.size R8 (.int .i64 k) (.slice s8 sh.length d8) (.slice (some ⟨bN, oN, none⟩) (l.length * m) e8) (.slice i8 0 f8) wc) (hs : IntsOn (fun g => g ≠ bN) wc s8 d8 sh)
    (hk : k = 1 ∨ k = 2) (hb1 : w.heap.size < bN) (hb2 : bN ≠ R8) (hcell : ∀ i, i < l.length * m → wc.cell? ⟨bN, oN + i, none⟩ = some (.int .i64 z)) (hh : wc.heap[bN]? = some (.cells cs T (0, 0)))
    (he : l.length * m ≤ e8) (he2 : e8 ≤ 9223372036854775807) (hf : f8 ≤ 9223372036854775807) (hN : l.length * m ≠ 0) (hL : l.length ≤ 65536) (hm : m = prN cm) (hr : rightB cm = true) (hcm : IntsAt w ca cc cm) (hok : ∀ A ∈ l, Okay k cm A) (hnb : ∀ A ∈ l, ∀ x ∈ A.nums, -9223372036854775808 ≤ x ∧ x ≤ 9223372036854775807) :
    ∃ D D' vI vA, AsmD w wc.heap.size R8 k s8 sh.length d8 (some ⟨bN, oN, none⟩) (l.length * m) e8 i8 0 f8 m ca cc cm l (asmA k sh cm l) D D' vI vA ∧ D 0 wc := by
  have hk3 : k ≠ 3 := by omega
  have hNN := (right_def.1 hr).2.1
  have hm0 : m ≠ 0 := fun e => hN (by rw [e, Nat.mul_zero])
  have hfl : ∀ A ∈ l, (partN k cm A).length = m := fun A hA => by
    have o := hok A hA
    rw [partN, hm, padS_len _ _ _ _ (by rw [leadS_len o.len]) hNN (leadS_NN o.nn) (by rw [leadS_prN o.nn]; exact (o.nums hk3).1)]
  have hxne : ((List.replicate (l.length * m) z).map (Value.int .i64)) ≠ [] := by simp; omega
  obtain ⟨hA0, hL1⟩ := area_of_cells (o := oN) (xs := (List.replicate (l.length * m) z).map (Value.int .i64)) hh hxne (fun i hi => by
    simp only [List.length_map, List.length_replicate] at hi
    rw [hcell i hi]; simp)
  generalize cs.toList.take oN = L1 at hA0 hL1
  generalize cs.toList.drop (oN + ((List.replicate (l.length * m) z).map (Value.int .i64)).length) = L2 at hA0
  subst hL1
  refine ⟨fun i W => (AsmC w wc.heap.size R8 (.int .i64 k) (.slice s8 sh.length d8) (.slice (some ⟨bN, L1.length, none⟩) (l.length * m) e8) (.slice i8 0 f8) W ∧ IntsOn (fun g => g ≠ bN) W s8 d8 sh) ∧ AreaAt W bN T L1 ((curS z (partN k cm) l i m).map unit1).flatten L2,
    fun i W => (AsmC w wc.heap.size R8 (.int .i64 k) (.slice s8 sh.length d8) (.slice (some ⟨bN, L1.length, none⟩) (l.length * m) e8) (.slice i8 0 f8) W ∧ IntsOn (fun g => g ≠ bN) W s8 d8 sh) ∧ AreaAt W bN T L1 ((curS z (partN k cm) l (i + 1) m).map unit1).flatten L2,
    fun i => .slice (some ⟨bN, L1.length + i * m * 1, none⟩) m m, fun _ => .slice none 0 0, ⟨fun _ _ h => h.1.1, fun _ _ h => h.1.1, ?_, ?_, ?_, ?_, ?_, ?_, ?_⟩, ⟨hC, hs⟩, by rw [curS_zero, unit1_flat]; exact hA0⟩
  · exact fun i W W' h hb => ⟨⟨h.1.1.below hb, h.1.2.keep fun g hg hl => ⟨hg, fun o => hb.cell hl⟩⟩, (hb.block bN (lt_of_heap h.2)).trans h.2⟩
  · exact fun i W W' h hb => ⟨⟨h.1.1.below hb, h.1.2.keep fun g hg hl => ⟨hg, fun o => hb.cell hl⟩⟩, (hb.block bN (lt_of_heap h.2)).trans h.2⟩
  · intro i hi W
    have := blockI (some ⟨bN, L1.length, none⟩) (l.length * m) e8 i m W hN he he2 (Nat.mul_le_mul_right _ hi) (by omega)
    rw [blkA_some hm0] at this
    exact this
  · exact fun i _ W => blockA_nil i8 f8 i m W
  · intro i hi W k' sa ls sc na ln nc ia li ic hA hD
    obtain ⟨⟨dC, dS⟩, dA⟩ := hD
    have o := hok _ (List.getElem_mem hi)
    have hl2 : ∀ A ∈ l.take i, (partN k cm A).length = m := fun A hA => hfl A (List.mem_of_mem_take hA)
    have hdl := done_len (partN k cm) m (l.take i) hl2
    rw [List.length_take, Nat.min_eq_left (by omega)] at hdl
    have hst : ((curS z (partN k cm) l (i + 1) m).map unit1).flatten = ((((l.take i).map (partN k cm)).flatten).map unit1).flatten ++ (((partN k cm l[i]).map unit1).flatten ++ ((List.replicate ((l.length - (i + 1)) * m) z).map unit1).flatten) := by
      rw [curS_step z _ l i m hi, List.map_append, List.map_append, List.flatten_append, List.flatten_append]
    rw [hst]
    rw [curS_split z _ l i m hi, List.map_append, List.map_append, List.flatten_append, List.flatten_append] at dA
    rw [area_mid] at dA
    have hpt : partN k cm l[i] = padS z cm (leadS l[i].shape cm.length) l[i].nums := by rw [partN, hz]
    rw [hpt]
    generalize l[i] = A at hA o hpt
    obtain ⟨ak, ash, anu, ait⟩ := A
    rw [ArrAt] at hA
    obtain ⟨sa', sc', na', nc', ia', ic', hv, -, hsh, hnu, -⟩ := hA
    simp only [Value.agg.injEq, Array.mk.injEq, List.cons.injEq, and_true, Value.slice.injEq] at hv
    obtain ⟨-, ⟨rfl, rfl, rfl⟩, ⟨rfl, rfl, rfl⟩, -⟩ := hv
    have hln : (anu.map unit1).length = anu.length := List.length_map _
    have hP : PlI W cm ash T (anu.map unit1) ((List.replicate m z).map unit1) (L1 ++ ((((l.take i).map (partN k cm)).flatten).map unit1).flatten) (((List.replicate ((l.length - (i + 1)) * m) z).map unit1).flatten ++ L2) bN m m cc nc sc (some ⟨bN, L1.length + i * m * 1, none⟩) ca na sa := by
      refine ⟨hr, o.nn, o.len, (fun h9 => o.fit (by rw [← hm]; exact h9)), by rw [hln]; exact (o.nums hk3).1, unit1_units _, by simp, unit1_units _, hm, Nat.le_refl _, by have := Nat.le_mul_of_pos_left m (show 0 < l.length by omega); omega, fun _ => ?_, by rw [hln]; exact hnu.1, hnu.2.1, ints_src hnu (by omega) dC.bel, dA, hcm.onNe (by omega) dC.bel, hsh.onNe (by omega) dC.bel⟩
      rw [List.length_append, (unit1_units _).len, List.length_map, hdl]
    have := placeI W cm ash T _ _ _ _ bN m m cc nc sc _ ca na sa hP
    rw [hln] at this
    refine this.mono ?_
    rintro e w' ⟨he', hA', hB'⟩
    refine ⟨he', ⟨⟨dC.but hB' hb1 hb2, dS.but hB'⟩, ?_⟩, bN, lt_of_heap hh, hB'⟩
    rw [area_mid]
    have hcl : cm.length = (leadS ash cm.length).length := (leadS_len o.len).symm
    rw [hm, padS_units cm _ anu hcl hNN] at hA'
    rw [hm]
    exact hA'
  · intro i hi W k' sa ls sc na ln nc ia li ic _ hD
    refine (placeA_zero _ _ _ _ _ _ _ _ _ _ _ W).mono ?_
    rintro e w' ⟨rfl, rfl⟩
    exact ⟨rfl, hD, w.heap.size, hC.q6.lt, But.refl _ _⟩
  · rintro W ⟨⟨-, hS⟩, hA⟩
    rw [curS_end, unit1_flat] at hA
    have hcl := done_len (partN k cm) m l hfl
    have hbd : ∀ x ∈ (l.map (partN k cm)).flatten, -9223372036854775808 ≤ x ∧ x ≤ 9223372036854775807 := by
      intro x hx
      obtain ⟨p, hp, hx⟩ := List.mem_flatten.1 hx
      obtain ⟨A, hA, rfl⟩ := List.mem_map.1 hp
      rcases padS_mem _ _ _ _ x hx with h1 | h1
      · rw [h1, fillZ]; split <;> decide
      · exact hnb A hA x h1
    rw [asmA, if_neg hk3, if_neg hk3, ArrAt]
    refine ⟨s8, d8, _, e8, i8, f8, by rw [hcl]; rfl, by omega, hS.1, ⟨by rw [hcl]; exact he, he2, hbd, bN, L1.length, fun _ => rfl, fun i hi => ?_⟩, Nat.zero_le _, hf, 0, 0, fun h => absurd rfl h, by rw [ArrsAt]; trivial⟩
    generalize (l.map (partN k cm)).flatten = X at hA hi ⊢
    unfold AreaAt at hA
    simp only [World.cell?, hA]
    show (L1 ++ (X.map (Value.int .i64) ++ L2)).toArray[L1.length + i]? = _
    rw [List.getElem?_toArray, List.getElem?_append_right (by omega), Nat.add_sub_cancel_left, List.getElem?_append_left (by simpa using hi)]
    simp [hi]
end Go.Proofs.Ytblgpnijiefopaa.Shape

namespace Go.Proofs.Ytblgpnijiefopaa.Shape
open Go.RowKit
set_option linter.unusedVariables false

/-- Four cells that hold an array, none of whose blocks is the row. -/
def ItemAt (G : Nat) (W : World) (p : List Value × Arr) : Prop := ∃ c0 c1 c2 c3, p.1 = [c0, c1, c2, c3] ∧ (∀ v ∈ p.1, v.oneCell' = true) ∧ ArrOn (fun g => g ≠ G) W (.agg #[c0, c1, c2, c3]) p.2
theorem ItemAt.but {G : Nat} {W W' : World} {p : List Value × Arr} (h : ItemAt G W p) (hb : But G W W') : ItemAt G W' p := by
  obtain ⟨c0, c1, c2, c3, h1, h2, h3⟩ := h
  exact ⟨c0, c1, c2, c3, h1, h2, hb.on h3⟩
theorem ItemAt.below {G : Nat} {W W' : World} {p : List Value × Arr} (h : ItemAt G W p) (hb : Below W.heap.size W W') : ItemAt G W' p := by
  obtain ⟨c0, c1, c2, c3, h1, h2, h3⟩ := h
  exact ⟨c0, c1, c2, c3, h1, h2, h3.keep fun g hg hl => ⟨hg, fun o => hb.cell hl⟩⟩
theorem quads_pairs {P : Nat → Prop} {w W : World} {G : Nat} (hP : ∀ g, P g → g < w.heap.size → g ≠ G ∧ ∀ o, W.cell? ⟨g, o, none⟩ = w.cell? ⟨g, o, none⟩) : ∀ {l : List Arr} {qs : List Value}, Quads P w qs l → (∀ u ∈ qs, u.oneCell' = true) → ∃ ps : List (List Value × Arr), ps.map Prod.snd = l ∧ (ps.map Prod.fst).flatten = qs ∧ ∀ p ∈ ps, ItemAt G W p
  | [], qs, h, _ => by
    rw [quads_nil h]
    exact ⟨[], rfl, rfl, fun p hp => by cases hp⟩
  | A :: r, qs, h, ho => by
    obtain ⟨c0, c1, c2, c3, q, rfl, hA, hq⟩ := quads_cons h
    obtain ⟨ps, h1, h2, h3⟩ := quads_pairs hP hq (fun u hu => ho u (by simp [hu]))
    refine ⟨([c0, c1, c2, c3], A) :: ps, by rw [List.map_cons, h1], by rw [List.map_cons, List.flatten_cons, h2]; rfl, fun p hp => ?_⟩
    rcases List.mem_cons.1 hp with rfl | hp
    · exact ⟨c0, c1, c2, c3, rfl, fun v hv => ho v (List.mem_append_left q hv), hA.keep hP⟩
    · exact h3 p hp
theorem pairs_quads {W : World} {G : Nat} : ∀ {ps : List (List Value × Arr)}, (∀ p ∈ ps, ItemAt G W p) → Quads (fun g => g ≠ G) W (ps.map Prod.fst).flatten (ps.map Prod.snd)
  | [], _ => by
    show Quads _ W [] []
    rw [Quads]; trivial
  | p :: ps, h => by
    obtain ⟨c0, c1, c2, c3, h1, h2, h3⟩ := h p (by simp)
    rw [List.map_cons, List.map_cons, List.flatten_cons, h1]
    show Quads _ W (c0 :: c1 :: c2 :: c3 :: (ps.map Prod.fst).flatten) (p.2 :: ps.map Prod.snd)
    rw [Quads]
    exact ⟨h3, pairs_quads fun q hq => h q (by simp [hq])⟩
theorem items_units {W : World} {G : Nat} {ps : List (List Value × Arr)} (h : ∀ p ∈ ps, ItemAt G W p) : Units 4 (ps.map Prod.fst) := fun e he => by
  obtain ⟨p, hp, rfl⟩ := List.mem_map.1 he
  obtain ⟨c0, c1, c2, c3, h1, h2, -⟩ := h p hp
  exact ⟨by rw [h1]; rfl, h2⟩
theorem cut_append {α β : Type} {f : α → β} {l : List α} {X Y : List β} (h : l.map f = X ++ Y) : ∃ l1 l2, l = l1 ++ l2 ∧ l1.map f = X ∧ l2.map f = Y := List.map_eq_append_iff.1 h

/-- Items. -/
theorem asm_items {w wc : World} {R8 m G : Nat} {s8 n8 : Option Addr} {d8 e8 f8 : Nat} {ca : Option Addr} {cc : Nat} {cm sh : List Int} {l : List Arr} {qs : List Value}
    (hC : AsmC w wc.heap.size R8 (.int .i64 3) (.slice s8 sh.length d8) (.slice n8 0 e8) (.slice (some ⟨G, 0, none⟩) (l.length * m) f8) wc) (hs : IntsOn (fun g => g ≠ G) wc s8 d8 sh)
    (hb1 : w.heap.size < G) (hb2 : G ≠ R8) (hh : wc.heap[G]? = some (.cells qs.toArray 26 (0, 0))) (hone : ∀ u ∈ qs, u.oneCell' = true) (hq : Quads (fun g => g ≠ G) wc qs (List.replicate (l.length * m) fillI))
    (he : e8 ≤ 9223372036854775807) (hf : l.length * m ≤ f8) (hf2 : f8 ≤ 9223372036854775807) (hN : l.length * m ≠ 0) (hL : l.length ≤ 65536) (hm : m = prN cm) (hr : rightB cm = true) (hcm : IntsAt w ca cc cm) (hok : ∀ A ∈ l, Okay 3 cm A) :
    ∃ D D' vI vA, AsmD w wc.heap.size R8 3 s8 sh.length d8 n8 0 e8 (some ⟨G, 0, none⟩) (l.length * m) f8 m ca cc cm l (asmA 3 sh cm l) D D' vI vA ∧ D 0 wc := by
  have hNN := (right_def.1 hr).2.1
  have hm0 : m ≠ 0 := fun e => hN (by rw [e, Nat.mul_zero])
  have hfl : ∀ A ∈ l, (partI cm A).length = m := fun A hA => by
    have o := hok A hA
    rw [partI, hm, padS_len _ _ _ _ (by rw [leadS_len o.len]) hNN (leadS_NN o.nn) (by rw [leadS_prN o.nn]; exact (o.items rfl).1)]
  have hml := Nat.le_mul_of_pos_left m (show 0 < l.length from Nat.pos_of_ne_zero fun e => hN (by rw [e, Nat.zero_mul]))
  refine ⟨fun i W => (AsmC w wc.heap.size R8 (.int .i64 3) (.slice s8 sh.length d8) (.slice n8 0 e8) (.slice (some ⟨G, 0, none⟩) (l.length * m) f8) W ∧ IntsOn (fun g => g ≠ G) W s8 d8 sh) ∧ ∃ ps : List (List Value × Arr), ps.map Prod.snd = curS fillI (partI cm) l i m ∧ (∀ p ∈ ps, ItemAt G W p) ∧ AreaAt W G 26 [] (ps.map Prod.fst).flatten [],
    fun i W => (AsmC w wc.heap.size R8 (.int .i64 3) (.slice s8 sh.length d8) (.slice n8 0 e8) (.slice (some ⟨G, 0, none⟩) (l.length * m) f8) W ∧ IntsOn (fun g => g ≠ G) W s8 d8 sh) ∧ ∃ ps : List (List Value × Arr), ps.map Prod.snd = curS fillI (partI cm) l i m ∧ (∀ p ∈ ps, ItemAt G W p) ∧ AreaAt W G 26 [] (ps.map Prod.fst).flatten [],
    fun _ => .slice none 0 0, fun i => .slice (some ⟨G, 0 + i * m * 4, none⟩) m m, ⟨fun _ _ h => h.1.1, fun _ _ h => h.1.1, ?_, ?_, ?_, ?_, ?_, ?_, ?_⟩, ⟨hC, hs⟩, ?_⟩
  · rintro i W W' ⟨⟨h1, h2⟩, ps, h3, h4, h5⟩ hb
    exact ⟨⟨h1.below hb, h2.keep fun g hg hl => ⟨hg, fun o => hb.cell hl⟩⟩, ps, h3, fun p hp => (h4 p hp).below hb, (hb.block G (lt_of_heap h5)).trans h5⟩
  · rintro i W W' ⟨⟨h1, h2⟩, ps, h3, h4, h5⟩ hb
    exact ⟨⟨h1.below hb, h2.keep fun g hg hl => ⟨hg, fun o => hb.cell hl⟩⟩, ps, h3, fun p hp => (h4 p hp).below hb, (hb.block G (lt_of_heap h5)).trans h5⟩
  · exact fun i _ W => blockI_nil n8 e8 i m W
  · intro i hi W
    have := blockA (some ⟨G, 0, none⟩) (l.length * m) f8 i m W hN hf hf2 (Nat.mul_le_mul_right _ hi) (by omega)
    rw [blkA_some hm0] at this
    exact this
  · intro i hi W k' sa ls sc na ln nc ia li ic _ hD
    refine (placeI_zero _ _ _ _ _ _ _ _ _ _ _ W).mono ?_
    rintro e w' ⟨rfl, rfl⟩
    exact ⟨rfl, hD, w.heap.size, hC.q6.lt, But.refl _ _⟩
  · intro i hi W k' sa ls sc na ln nc ia li ic hA hD
    obtain ⟨⟨dC, dS⟩, ps, p1, p2, p3⟩ := hD
    have o := hok _ (List.getElem_mem hi)
    have hl2 : ∀ A ∈ l.take i, (partI cm A).length = m := fun A hA => hfl A (List.mem_of_mem_take hA)
    have hdl := done_len (partI cm) m (l.take i) hl2
    rw [List.length_take, Nat.min_eq_left (by omega)] at hdl
    have hst := curS_step fillI (partI cm) l i m hi
    rw [hst]
    rw [curS_split fillI _ l i m hi] at p1
    obtain ⟨pa, pr, rfl, hpa, hpr⟩ := cut_append p1
    obtain ⟨pb, pc, rfl, hpb, hpc⟩ := cut_append hpr
    have hpal : pa.length = i * m := by rw [← hdl, ← hpa, List.length_map]
    have hpbl : pb.length = m := by rw [← List.length_map (f := Prod.snd), hpb, List.length_replicate]
    rw [List.map_append, List.map_append, List.flatten_append, List.flatten_append] at p3
    have p4 : AreaAt W G 26 ([] ++ (pa.map Prod.fst).flatten) (pb.map Prod.fst).flatten ((pc.map Prod.fst).flatten ++ []) := area_mid.1 p3
    have hpt : partI cm l[i] = padS fillI cm (leadS l[i].shape cm.length) l[i].items := rfl
    rw [hpt]
    generalize l[i] = A at hA o hpt
    obtain ⟨ak, ash, anu, ait⟩ := A
    have hAon := hA.on
    rw [ArrAt] at hA
    rw [ArrOn] at hAon
    obtain ⟨sa', sc', na', nc', ia', ic', hv, -, hsh, hnu, hic, hic2, b', off', hia, his⟩ := hAon
    simp only [Value.agg.injEq, Array.mk.injEq, List.cons.injEq, and_true, Value.slice.injEq] at hv
    obtain ⟨-, ⟨rfl, rfl, rfl⟩, -, ⟨rfl, rfl, rfl⟩⟩ := hv
    obtain ⟨qs', q1, q2, q3, q4⟩ := arrs_quads his
    have hbW := dC.bel
    obtain ⟨es, e1, e2, e3⟩ := quads_pairs (W := W) (G := G) (fun g hg hl => ⟨by omega, fun o => hbW.cell hl⟩) q3 q4
    have hesl : (es.map Prod.fst).length = ait.length := by rw [List.length_map, ← List.length_map (f := Prod.snd), e1]
    have hpbu : Units 4 (pb.map Prod.fst) := items_units fun p hp => p2 p (by simp [hp])
    have hpau : Units 4 (pa.map Prod.fst) := items_units fun p hp => p2 p (by simp [hp])
    have hP : PlA W cm ash 26 (es.map Prod.fst) (pb.map Prod.fst) ([] ++ (pa.map Prod.fst).flatten) ((pc.map Prod.fst).flatten ++ []) G m m cc ic sc (some ⟨G, 0 + i * m * 4, none⟩) ca ia sa := by
      refine ⟨hr, o.nn, o.len, (fun h9 => o.fit (by rw [← hm]; exact h9)), by rw [hesl]; exact (o.items rfl).1, hpbu, by rw [List.length_map]; exact hpbl, items_units e3, hm, Nat.le_refl _, by omega, fun _ => ?_, by rw [hesl]; exact hic, hic2, ?_, p4, hcm.onNe (by omega) dC.bel, hsh.1.onNe (by omega) dC.bel⟩
      · rw [List.nil_append, hpau.len, List.length_map, hpal, Nat.zero_add]
      · rw [e2]
        intro hne
        have hit : ait ≠ [] := by intro e; subst e; simp at q1; exact hne q1
        obtain ⟨h1, h2⟩ := hia hit
        refine ⟨b', off', h1, by omega, fun j v hj => ?_⟩
        have hjl := (List.getElem?_eq_some_iff.1 hj).1
        rw [hbW.cell h2, q2 j hjl, ← hj, List.getElem?_eq_getElem hjl]
    have := placeA W cm ash 26 _ _ _ _ G m m cc ic sc _ ca ia sa hP
    rw [hesl] at this
    refine this.mono ?_
    rintro e w' ⟨he', hA', hB'⟩
    rw [padT_map] at hA'
    refine ⟨he', ⟨⟨dC.but hB' hb1 hb2, dS.but hB'⟩, pa ++ (padT cm (leadS ash cm.length) es pb ++ pc), ?_, ?_, ?_⟩, G, lt_of_heap hh, hB'⟩
    · rw [List.map_append, List.map_append, hpa, hpc, ← padT_map, e1, hpb, hm, padT_rep _ _ _ _ (show cm.length = (leadS ash cm.length).length from (leadS_len o.len).symm) hNN]
      rfl
    · intro p hp
      rcases List.mem_append.1 hp with h | h
      · exact (p2 p (by simp [h])).but hB'
      · rcases List.mem_append.1 h with h | h
        · rcases padT_mem _ _ _ _ p h with h | h
          · exact (p2 p (by simp [h])).but hB'
          · exact (e3 p h).but hB'
        · exact (p2 p (by simp [h])).but hB'
    · rw [List.map_append, List.map_append, List.flatten_append, List.flatten_append]
      exact area_mid.2 hA'
  · rintro W ⟨⟨-, hS⟩, ps, p1, p2, p3⟩
    rw [curS_end] at p1
    have hcl := done_len (partI cm) m l hfl
    rw [asmA, if_pos rfl, if_pos rfl, ArrAt]
    refine ⟨s8, d8, n8, e8, _, f8, by rw [hcl]; rfl, by decide, hS.1, ⟨Nat.zero_le _, he, fun x hx => absurd hx (by simp), 0, 0, fun hn => absurd rfl hn, fun i hi => absurd hi (by simp)⟩, by rw [hcl]; exact hf, hf2, G, 0, fun _ => rfl, ?_⟩
    have hq := pairs_quads p2
    rw [p1] at hq
    refine ArrsOn.at (P := fun g => g ≠ G) (hq.arrs fun i hi => ?_)
    unfold AreaAt at p3
    simp only [World.cell?, p3, List.nil_append, List.append_nil, Nat.zero_add]
    show (((ps.map Prod.fst).flatten).toArray)[i]? = _
    simp
  · obtain ⟨ps, h1, h2, h3⟩ := quads_pairs (W := wc) (G := G) (fun g hg _ => ⟨hg, fun _ => rfl⟩) hq hone
    refine ⟨ps, by rw [curS_zero]; exact h1, h3, ?_⟩
    unfold AreaAt
    rw [h2, List.nil_append, List.append_nil]
    exact hh
theorem nums_bd {w : World} {b off : Nat} {l : List Arr} (h : ArrsAt w b off l) : ∀ A ∈ l, ∀ x ∈ A.nums, -9223372036854775808 ≤ x ∧ x ≤ 9223372036854775807 := by
  intro A hA x hx
  obtain ⟨j, hj, rfl⟩ := List.getElem_of_mem hA
  obtain ⟨c0, c1, c2, c3, -, hI⟩ := h.at hj
  generalize l[j] = B at hI hx
  obtain ⟨k, sh, nu, it⟩ := B
  rw [ArrAt] at hI
  obtain ⟨sa, sc, na, nc, ia, ic, -, -, -, hn, -⟩ := hI
  exact hn.2.2.1 x hx
/-- The three together. -/
theorem asm_data {w wc : World} {R8 m : Nat} {k k8 : Int} {s8 n8 i8 : Option Addr} {l8 d8 m8 e8 j8 f8 : Nat} {ca : Option Addr} {cc : Nat} {cm sh : List Int} {l : List Arr}
    (hC : AsmC w wc.heap.size R8 (.int .i64 k8) (.slice s8 l8 d8) (.slice n8 m8 e8) (.slice i8 j8 f8) wc) (hS : SplitOn (fun g => w.heap.size < g ∧ g ≠ R8) wc (.agg #[.int .i64 k8, .slice s8 l8 d8, .slice n8 m8 e8, .slice i8 j8 f8]) (allF k sh)) (hk : 1 ≤ k ∧ k ≤ 3)
    (hL : l.length * m = prN sh) (hL0 : l ≠ []) (hL2 : l.length ≤ 65536) (hm : m = prN cm) (hr : rightB cm = true) (hcm : IntsAt w ca cc cm) (hok : ∀ A ∈ l, Okay k cm A) (hnb : ∀ A ∈ l, ∀ x ∈ A.nums, -9223372036854775808 ≤ x ∧ x ≤ 9223372036854775807) :
    ∃ D D' vI vA, AsmD w wc.heap.size R8 k8 s8 l8 d8 n8 m8 e8 i8 j8 f8 m ca cc cm l (asmA k sh cm l) D D' vI vA ∧ D 0 wc := by
  have hNN := (right_def.1 hr).2.1
  have hpN : ∀ A ∈ l, k ≠ 3 → (partN k cm A).length = m := fun A hA hk3 => by
    have o := hok A hA
    rw [partN, hm, padS_len _ _ _ _ (by rw [leadS_len o.len]) hNN (leadS_NN o.nn) (by rw [leadS_prN o.nn]; exact (o.nums hk3).1)]
  have hpI : ∀ A ∈ l, k = 3 → (partI cm A).length = m := fun A hA hk3 => by
    have o := hok A hA
    rw [partI, hm, padS_len _ _ _ _ (by rw [leadS_len o.len]) hNN (leadS_NN o.nn) (by rw [leadS_prN o.nn]; exact (o.items hk3).1)]
  by_cases hk3 : k = 3
  · subst hk3
    rw [allF_box, ← hL] at hS
    obtain ⟨M, G, a1, c1, a2, c2, a3, c3, hv, hkd, i1, i2, h1, h2, row⟩ := hS
    simp only [Value.agg.injEq, Array.mk.injEq, List.cons.injEq, and_true, Value.slice.injEq, Value.int.injEq, true_and, Arr.kind, Arr.shape, Arr.nums, Arr.items, List.length_nil, List.length_replicate] at hv i1 i2 h1 row
    obtain ⟨rfl, ⟨rfl, rfl, rfl⟩, ⟨rfl, rfl, rfl⟩, ⟨rfl, rfl, rfl⟩⟩ := hv
    by_cases hN : l.length * m = 0
    · have hR : asmA 3 sh cm l = .mk 3 sh [] [] := by
        rw [asmA, if_pos rfl, if_pos rfl]
        congr 1
        exact List.eq_nil_of_length_eq_zero (by rw [done_len _ m l (fun A hA => hpI A hA rfl), hN])
      rw [hN] at hC ⊢
      exact asm_zero hC i1.1 (by decide) i2.1.2.1 h2 hR
    · obtain ⟨rfl, hG, qs, q1, q2, q3⟩ := row (fun e => hN (by have := congrArg List.length e; simpa using this))
      exact asm_items hC (i1.mono fun g hg => hg.1.2.2) hG.1 hG.2 q1 q2 (q3.keep fun g hg _ => ⟨hg.2.2, fun _ => rfl⟩) i2.1.2.1 h1 h2 hN hL2 hm hr hcm hok
  · have hk12 : k = 1 ∨ k = 2 := by omega
    rw [allF_num hk12, ← hL] at hS
    obtain ⟨M, G, a1, c1, a2, c2, a3, c3, hv, hkd, i1, i2, h1, h2, row⟩ := hS
    simp only [Value.agg.injEq, Array.mk.injEq, List.cons.injEq, and_true, Value.slice.injEq, Value.int.injEq, true_and, Arr.kind, Arr.shape, Arr.nums, Arr.items, List.length_nil, List.length_replicate] at hv i1 i2 h1 row hkd
    obtain ⟨rfl, ⟨rfl, rfl, rfl⟩, ⟨rfl, rfl, rfl⟩, ⟨rfl, rfl, rfl⟩⟩ := hv
    by_cases hN : l.length * m = 0
    · have hR : asmA k8 sh cm l = .mk k8 sh [] [] := by
        rw [asmA, if_neg hk3, if_neg hk3]
        congr 1
        exact List.eq_nil_of_length_eq_zero (by rw [done_len _ m l (fun A hA => hpN A hA hk3), hN])
      rw [hN] at hC ⊢
      exact asm_zero hC i1.1 hkd i2.1.2.1 h2 hR
    · have hne : List.replicate (l.length * m) (fillZ k8) ≠ [] := fun e => hN (by have := congrArg List.length e; simpa using this)
      obtain ⟨⟨n1, n2, n3, bN, oN, ha, hcl⟩, hp⟩ := i2
      have ha' := ha hne
      subst ha'
      obtain ⟨⟨⟨hb1, hb2⟩, ⟨cs, T, hh⟩, -⟩, hM⟩ := hp hne _ rfl
      simp only [List.length_replicate] at n1 hcl
      exact asm_nums (z := fillZ k8) rfl hC (i1.mono fun g hg => by have := hg.2; have hM' : M ≤ bN := hM; omega) hk12 hb1 hb2 (fun i hi => by rw [hcl i hi]; simp) hh n1 n2 h2 hN hL2 hm hr hcm hok hnb
end Go.Proofs.Ytblgpnijiefopaa.Shape

namespace Go.Proofs.Ytblgpnijiefopaa.Shape
open Go.RowKit
set_option linter.unusedVariables false

theorem reachL_of : ∀ {l : List Arr}, (∀ A ∈ l, Reach A) → ReachL l
  | [], _ => by rw [ReachL]; trivial
  | A :: r, h => by rw [ReachL]; exact ⟨h A (by simp), reachL_of fun B hB => h B (by simp [hB])⟩
theorem reachL_each : ∀ {l : List Arr}, ReachL l → ∀ A ∈ l, Reach A
  | [], _, A, hA => by cases hA
  | B :: r, h, A, hA => by
    rw [ReachL] at h
    rcases List.mem_cons.1 hA with rfl | hA
    · exact h.1
    · exact reachL_each h.2 A hA
theorem reach_items {A : Arr} (h : Reach A) : ∀ B ∈ A.items, Reach B := by
  obtain ⟨k, sh, nu, it⟩ := A
  rw [Reach] at h
  exact reachL_each h.2.2.2
theorem reach_asm {k : Int} {sh cm : List Int} {m : Nat} {l : List Arr} (hk : 1 ≤ k ∧ k ≤ 3) (hrcm : rightB cm = true) (hr : rightB sh = true) (hm : m = prN cm) (hN : Hid (l.length * m = prN sh)) (hok : ∀ A ∈ l, Okay k cm A) (hR : ∀ A ∈ l, Reach A) : Reach (asmA k sh cm l) := by
  have hNN := (right_def.1 hrcm).2.1
  have h8 := (right_def.1 hr).1
  have hp : prN sh ≤ 65536 := by
    have := (part_bd (a := sh) (b := []) (by rw [List.append_nil]; exact hr)).2.1
    unfold prN; omega
  have hN' := hN.out
  rw [asmA, Reach]
  by_cases hk3 : k = 3
  · subst hk3
    rw [if_pos rfl, if_pos rfl]
    have hl := done_len (partI cm) m l (fun A hA => by
      have o := hok A hA
      rw [partI, hm, padS_len _ _ _ _ (by rw [leadS_len o.len]) hNN (leadS_NN o.nn) (by rw [leadS_prN o.nn]; exact (o.items rfl).1)])
    refine ⟨by omega, by decide, by omega, reachL_of fun B hB => ?_⟩
    obtain ⟨p, hp, hx⟩ := List.mem_flatten.1 hB
    obtain ⟨A, hA, rfl⟩ := List.mem_map.1 hp
    rcases padS_mem _ _ _ _ B hx with h1 | h1
    · rw [h1]; exact reach_plain (by decide) (by decide)
    · exact reach_items (hR A hA) B h1
  · rw [if_neg hk3, if_neg hk3]
    have hl := done_len (partN k cm) m l (fun A hA => by
      have o := hok A hA
      rw [partN, hm, padS_len _ _ _ _ (by rw [leadS_len o.len]) hNN (leadS_NN o.nn) (by rw [leadS_prN o.nn]; exact (o.nums hk3).1)])
    exact ⟨by omega, by omega, by decide, by rw [ReachL]; trivial⟩
theorem alloc_sizeC (w : World) (o : Obj) : (w.alloc o).heap.size = w.heap.size + 1 := by simp
theorem asmEndN {w W w2 : World} {AF : Arr} {k8 : Int} {s8 n8 i8 : Option Addr} {l8 d8 m8 e8 j8 f8 : Nat} (er : Int) (hO : SplitAt W.heap.size w2 (.agg #[.int .i64 k8, .slice s8 l8 d8, .slice n8 m8 e8, .slice i8 j8 f8]) AF) (hW : w.heap.size < W.heap.size) (e : Below w.heap.size w w2) (q6 : Quad w2 w.heap.size (.int .i64 0) (.slice none 0 0) (.slice none 0 0) (.slice none 0 0)) :
    ∃ (R9 : Nat) (k9 : Int) (s9 : Option Addr) (l9 d9 : Nat) (n9 : Option Addr) (m9 e9 : Nat) (i9 : Option Addr) (j9 f9 : Nat), Value.pointer (some ⟨w2.heap.size, 0, none⟩) = .pointer (some ⟨R9, 0, none⟩) ∧ Value.int .i64 er = .int .i64 er ∧ w.heap.size < R9 ∧ Quad (w2.alloc (.cells #[.int .i64 k8, .slice s8 l8 d8, .slice n8 m8 e8, .slice i8 j8 f8] 26)) R9 (.int .i64 k9) (.slice s9 l9 d9) (.slice n9 m9 e9) (.slice i9 j9 f9) ∧ Quad (w2.alloc (.cells #[.int .i64 k8, .slice s8 l8 d8, .slice n8 m8 e8, .slice i8 j8 f8] 26)) w.heap.size (.int .i64 0) (.slice none 0 0) (.slice none 0 0) (.slice none 0 0) ∧ SplitOn (fun g => w.heap.size < g ∧ g ≠ R9) (w2.alloc (.cells #[.int .i64 k8, .slice s8 l8 d8, .slice n8 m8 e8, .slice i8 j8 f8] 26)) (.agg #[.int .i64 k9, .slice s9 l9 d9, .slice n9 m9 e9, .slice i9 j9 f9]) AF ∧ Below w.heap.size w (w2.alloc (.cells #[.int .i64 k8, .slice s8 l8 d8, .slice n8 m8 e8, .slice i8 j8 f8] 26)) := by
  have bn := below_new w2 (.cells #[.int .i64 k8, .slice s8 l8 d8, .slice n8 m8 e8, .slice i8 j8 f8] 26)
  refine ⟨w2.heap.size, k8, s8, l8, d8, n8, m8, e8, i8, j8, f8, rfl, rfl, ?_, Quad.new _ _ _ _ _, q6.below bn, hO.on fun g hg hl => ⟨⟨by omega, by omega⟩, bn.block g hl⟩, Below.then e bn⟩
  have := q6.lt
  exact this
theorem asmEndS {w W w2 : World} {AF : Arr} {R : Nat} {z0 z1 z2 z3 : Value} {k8 : Int} {s8 n8 i8 : Option Addr} {l8 d8 m8 e8 j8 f8 : Nat} (er : Int) (hO : SplitAt W.heap.size w2 (.agg #[.int .i64 k8, .slice s8 l8 d8, .slice n8 m8 e8, .slice i8 j8 f8]) AF) (hW : w.heap.size < W.heap.size) (e : Below w.heap.size w w2) (q6 : Quad w2 w.heap.size (.int .i64 0) (.slice none 0 0) (.slice none 0 0) (.slice none 0 0)) (q : Quad w2 R z0 z1 z2 z3) (h1 : w.heap.size < R) (h2 : R < W.heap.size) :
    ∃ (R9 : Nat) (k9 : Int) (s9 : Option Addr) (l9 d9 : Nat) (n9 : Option Addr) (m9 e9 : Nat) (i9 : Option Addr) (j9 f9 : Nat), Value.pointer (some ⟨R, 0, none⟩) = .pointer (some ⟨R9, 0, none⟩) ∧ Value.int .i64 er = .int .i64 er ∧ w.heap.size < R9 ∧ Quad (((((w2.setCell ⟨R, 0, none⟩ (.int .i64 k8)).setCell ⟨R, 1, none⟩ (.slice s8 l8 d8)).setCell ⟨R, 2, none⟩ (.slice n8 m8 e8)).setCell ⟨R, 3, none⟩ (.slice i8 j8 f8))) R9 (.int .i64 k9) (.slice s9 l9 d9) (.slice n9 m9 e9) (.slice i9 j9 f9) ∧ Quad (((((w2.setCell ⟨R, 0, none⟩ (.int .i64 k8)).setCell ⟨R, 1, none⟩ (.slice s8 l8 d8)).setCell ⟨R, 2, none⟩ (.slice n8 m8 e8)).setCell ⟨R, 3, none⟩ (.slice i8 j8 f8))) w.heap.size (.int .i64 0) (.slice none 0 0) (.slice none 0 0) (.slice none 0 0) ∧ SplitOn (fun g => w.heap.size < g ∧ g ≠ R9) (((((w2.setCell ⟨R, 0, none⟩ (.int .i64 k8)).setCell ⟨R, 1, none⟩ (.slice s8 l8 d8)).setCell ⟨R, 2, none⟩ (.slice n8 m8 e8)).setCell ⟨R, 3, none⟩ (.slice i8 j8 f8))) (.agg #[.int .i64 k9, .slice s9 l9 d9, .slice n9 m9 e9, .slice i9 j9 f9]) AF ∧ Below w.heap.size w (((((w2.setCell ⟨R, 0, none⟩ (.int .i64 k8)).setCell ⟨R, 1, none⟩ (.slice s8 l8 d8)).setCell ⟨R, 2, none⟩ (.slice n8 m8 e8)).setCell ⟨R, 3, none⟩ (.slice i8 j8 f8))) := by
  obtain ⟨p1, p2⟩ := set4 q (.int .i64 k8) (.slice s8 l8 d8) (.slice n8 m8 e8) (.slice i8 j8 f8)
  have hb := set4_below (w := w2) (B := w.heap.size) (b := R) (by omega) (.int .i64 k8) (.slice s8 l8 d8) (.slice n8 m8 e8) (.slice i8 j8 f8)
  generalize ((((w2.setCell ⟨R, 0, none⟩ (.int .i64 k8)).setCell ⟨R, 1, none⟩ (.slice s8 l8 d8)).setCell ⟨R, 2, none⟩ (.slice n8 m8 e8)).setCell ⟨R, 3, none⟩ (.slice i8 j8 f8)) = V at p1 p2 hb ⊢
  exact ⟨R, k8, s8, l8, d8, n8, m8, e8, i8, j8, f8, rfl, rfl, h1, p1, q6.keep (p2 _ (by omega)), hO.on fun g hg hl => ⟨⟨by omega, by omega⟩, p2 g (by omega)⟩, e.trans hb⟩
theorem drew_sizeC (w : World) : w.drew.heap.size = w.heap.size := rfl
theorem Quad.drewC {w : World} {b : Nat} {c0 c1 c2 c3 : Value} (h : Quad w b c0 c1 c2 c3) : Quad w.drew b c0 c1 c2 c3 := h
set_option maxRecDepth 100000 in
set_option maxHeartbeats 8000000 in
theorem asmX (fa : Option Addr) (fc : Nat) (fr : List Int) (ca : Option Addr) (cc : Nat) (cm : List Int) (a : Option Addr) (c : Nat) (l : List Arr) (k : Int) (w : World) (b off : Nat) (hf : IntsAt w fa fc fr) (hcm : IntsAt w ca cc cm) (hfl : fr.length ≤ 1000 ∧ cm.length ≤ 1000)
    (hlc : l.length ≤ c) (hc : c ≤ 9223372036854775807) (hne : l ≠ []) (hl6 : l.length ≤ 65536) (hlen : rightB fr = true → prN fr = l.length) (ha : a = some ⟨b, off, none⟩) (h : ArrsAt w b off l) (hk : 1 ≤ k ∧ k ≤ 3) (hok : ∀ A ∈ l, Okay k cm A) (hreach : ∀ A ∈ l, Reach A) :
    Calls Try.prog 53 #[.slice fa fr.length fc, .slice ca cm.length cc, .slice a l.length c] w (GiveNewE (asmS k fr cm l).1 (asmS k fr cm l).2 w) := by
  have hl0 : 0 < l.length := List.length_pos_iff.2 hne
  subst ha
  obtain ⟨kk, sa, sc, na, ln, nc, ia, li, ic, ⟨m0, -, -, -⟩, -, -, hkk⟩ := h.shape hl0
  obtain rfl : k = kk := by rw [← (hok _ (List.getElem_mem hl0)).kind]; exact hkk
  rw [Nat.zero_mul, Nat.add_zero] at m0
  have hix : ∀ W : World, (Instr.indexAt 24 (.slice (some ⟨b, off, none⟩) l.length c) (.int .i64 0)).run Try.prog W = .ok (.pointer (some ⟨b, off, none⟩)) W := by
    intro W
    have := items_at (ia := some ⟨b, off, none⟩) (b := b) (off := off) (l := l) (ic := c) rfl (fun _ => rfl) hl0 W
    rw [Nat.zero_mul, Nat.add_zero] at this
    exact this
  have bw := below_new w (.cells #[.int .i64 0, .slice none 0 0, .slice none 0 0, .slice none 0 0] 26)
  have q6 := Quad.new w (.int .i64 0) (.slice none 0 0) (.slice none 0 0) (.slice none 0 0)
  have hsz : (w.alloc (.cells #[.int .i64 0, .slice none 0 0, .slice none 0 0, .slice none 0 0] 26)).heap.size = w.heap.size + 1 := by simp
  have mm := (bw.cell (cell_lt m0)).trans m0
  have hf1 := hf.below bw
  have hcm1 := hcm.below bw
  obtain ⟨hfl1, hfl2⟩ := hfl
  have CC : ∀ (W0 : World), Below w.heap.size w W0 → ∀ (W : World) (g : Nat), W.heap[g]? = some (.cells #[.slice fa fr.length fc, .slice ca cm.length cc] 23) → Below W0.heap.size W0 W → Calls Try.prog 75 #[.slice (some ⟨g, 0, none⟩) 2 2] W fun e w' => ∃ a' c', e = .returned (.slice a' (fr ++ cm).length c') ∧ IntsAt w' a' c' (fr ++ cm) ∧ Below W.heap.size W w' := by
    intro W0 h0 W g hg hb
    refine (concatQ g fa ca fc cc fr cm W (by simp [World.cell?, hg]) (by simp [World.cell?, hg]) (hf.below (Below.then h0 hb)) (hcm.below (Below.then h0 hb)) ⟨by omega, by omega⟩).mono ?_
    rintro e w' ⟨a', c', he, hi, hb'⟩
    exact ⟨a', c', he, hi.1, hb'⟩
  have CF := fun a' c' (W : World) (g : IntsAt W a' c' (fr ++ cm)) => filledQ a' c' (fr ++ cm) k W g hk
  have CC1 := CC _ bw
  generalize hW0 : w.alloc (.cells #[.int .i64 0, .slice none 0 0, .slice none 0 0, .slice none 0 0] 26) = W0 at *
  obtain ⟨sh, hsh⟩ : ∃ sh, fr ++ cm = sh := ⟨_, rfl⟩
  rw [hsh] at CC1 CF
  have HSH : Hid (fr ++ cm = sh) := hsh
  obtain ⟨AF, er, hAF⟩ : ∃ AF er, filledS k sh = (AF, er) := ⟨_, _, rfl⟩
  rw [hAF] at CF
  have HAF : Hid (filledS k sh = (AF, er)) := hAF
  clear hAF hsh CC
  have H0 : ∀ w', Below W0.heap.size W0 w' → w'.cell? ⟨b, off, none⟩ = some (.int .i64 k) ∧ Below W0.heap.size W0 w' := fun w' hb => ⟨(hb.cell (cell_lt mm)).trans mm, hb⟩
  have g1 : (W0.alloc (.cells #[.slice fa fr.length fc, .slice ca cm.length cc] 23)).heap[w.heap.size + 1]? = some (.cells #[.slice fa fr.length fc, .slice ca cm.length cc] 23) := by rw [← hsz]; exact heap_alloc_new _ _
  have g2 : ((W0.alloc (.cells #[.slice fa fr.length fc, .slice ca cm.length cc] 23)).alloc (.cells #[.int .i64 0, .slice none 0 0, .slice none 0 0, .slice none 0 0] 26)).heap[w.heap.size + 1]? = some (.cells #[.slice fa fr.length fc, .slice ca cm.length cc] 23) := ((below_new _ _).block _ (by rw [alloc_sizeC]; omega)).trans g1
  have g3 : ((W0.alloc (.cells #[.int .i64 0, .slice none 0 0, .slice none 0 0, .slice none 0 0] 26)).alloc (.cells #[.slice fa fr.length fc, .slice ca cm.length cc] 23)).heap[w.heap.size + 1 + 1]? = some (.cells #[.slice fa fr.length fc, .slice ca cm.length cc] 23) := by rw [← hsz, ← alloc_sizeC W0 (.cells #[.int .i64 0, .slice none 0 0, .slice none 0 0, .slice none 0 0] 26)]; exact heap_alloc_new _ _
  have G1 : Hid ((W0.alloc (.cells #[.slice fa fr.length fc, .slice ca cm.length cc] 23)).heap[w.heap.size + 1]? = some (.cells #[.slice fa fr.length fc, .slice ca cm.length cc] 23)) := g1
  have G2 : Hid (((W0.alloc (.cells #[.slice fa fr.length fc, .slice ca cm.length cc] 23)).alloc (.cells #[.int .i64 0, .slice none 0 0, .slice none 0 0, .slice none 0 0] 26)).heap[w.heap.size + 1]? = some (.cells #[.slice fa fr.length fc, .slice ca cm.length cc] 23)) := g2
  have G3 : Hid (((W0.alloc (.cells #[.int .i64 0, .slice none 0 0, .slice none 0 0, .slice none 0 0] 26)).alloc (.cells #[.slice fa fr.length fc, .slice ca cm.length cc] 23)).heap[w.heap.size + 1 + 1]? = some (.cells #[.slice fa fr.length fc, .slice ca cm.length cc] 23)) := g3
  have G1d : Hid ((W0.alloc (.cells #[.slice fa fr.length fc, .slice ca cm.length cc] 23)).drew.heap[w.heap.size + 1]? = some (.cells #[.slice fa fr.length fc, .slice ca cm.length cc] 23)) := g1
  have G2d : Hid (((W0.alloc (.cells #[.slice fa fr.length fc, .slice ca cm.length cc] 23)).alloc (.cells #[.int .i64 0, .slice none 0 0, .slice none 0 0, .slice none 0 0] 26)).drew.heap[w.heap.size + 1]? = some (.cells #[.slice fa fr.length fc, .slice ca cm.length cc] 23)) := g2
  have G3d : Hid (((W0.alloc (.cells #[.int .i64 0, .slice none 0 0, .slice none 0 0, .slice none 0 0] 26)).alloc (.cells #[.slice fa fr.length fc, .slice ca cm.length cc] 23)).drew.heap[w.heap.size + 1 + 1]? = some (.cells #[.slice fa fr.length fc, .slice ca cm.length cc] 23)) := g3
  clear g1 g2 g3
  go_enter Try.func53, Try.ntmps53
  go_upto_region 1 with fail
  go_cut [8, 9] (fun v8 v9 wx => ∃ (R8 : Nat) (k8 : Int) (s8 : Option Addr) (l8 d8 : Nat) (n8 : Option Addr) (m8 e8 : Nat) (i8 : Option Addr) (j8 f8 : Nat), v8 = .pointer (some ⟨R8, 0, none⟩) ∧ v9 = .int .i64 er ∧ w.heap.size < R8 ∧ Quad wx R8 (.int .i64 k8) (.slice s8 l8 d8) (.slice n8 m8 e8) (.slice i8 j8 f8) ∧ Quad wx w.heap.size (.int .i64 0) (.slice none 0 0) (.slice none 0 0) (.slice none 0 0) ∧ SplitOn (fun g => w.heap.size < g ∧ g ≠ R8) wx (.agg #[.int .i64 k8, .slice s8 l8 d8, .slice n8 m8 e8, .slice i8 j8 f8]) AF ∧ Below w.heap.size w wx)
  case first =>
    go_region_held_law (fun w' => w'.cell? ⟨b, off, none⟩ = some (.int .i64 k) ∧ Below W0.heap.size W0 w')
      (first
        | exact H0 _ (by go_grown)
        | exact H0 _ (Below.setCell (Below.setCell (Below.setCell (Below.setCell (by go_grown) (by first | exact Nat.le_refl _ | assumption | omega) _) (by first | exact Nat.le_refl _ | assumption | omega) _) (by first | exact Nat.le_refl _ | assumption | omega) _) (by first | exact Nat.le_refl _ | assumption | omega) _))
      (((first
      | (go_simp; (with_reducible refine (CC1 _ _ (by first | exact G1.out | exact G2.out | exact G3.out | exact G1d.out | exact G2d.out | exact G3d.out) (by go_grown)).mono ?_); rintro e w1 ⟨a', c', rfl, hi, b1⟩; (have e1 : Below W0.heap.size W0 w1 := Below.then (by go_grown) b1); (have S1 := e1.size); (first | (have qX := Quad.below b1 (Quad.drewC (Quad.new _ _ _ _ _)); (try simp only [alloc_sizeC] at qX); (try simp only [drew_sizeC] at qX); (try simp only [hsz] at qX); (obtain ⟨x0, x1, x2, x3, x4, x5, x6, x7⟩ := qX.cells); (have ltqX := qX.lt)) | (have qX := Quad.below b1 (Quad.new _ _ _ _ _); (try simp only [alloc_sizeC] at qX); (try simp only [drew_sizeC] at qX); (try simp only [hsz] at qX); (obtain ⟨x0, x1, x2, x3, x4, x5, x6, x7⟩ := qX.cells); (have ltqX := qX.lt)) | (have qX := Quad.below b1 (Quad.below (below_new _ _) (Quad.new _ _ _ _ _)); (try simp only [alloc_sizeC] at qX); (try simp only [drew_sizeC] at qX); (try simp only [hsz] at qX); (obtain ⟨x0, x1, x2, x3, x4, x5, x6, x7⟩ := qX.cells); (have ltqX := qX.lt)) | (have qX := Quad.below b1 (Quad.drewC (Quad.below (below_new _ _) (Quad.new _ _ _ _ _))); (try simp only [alloc_sizeC] at qX); (try simp only [drew_sizeC] at qX); (try simp only [hsz] at qX); (obtain ⟨x0, x1, x2, x3, x4, x5, x6, x7⟩ := qX.cells); (have ltqX := qX.lt)) | skip))
      | (go_simp; (with_reducible refine (CF _ _ _ (hi.below (by go_grown))).mono ?_); intro e w2 hN; (obtain ⟨k8, s8, l8, d8, n8, m8, e8, i8, j8, f8, rfl, hO, b2⟩ := hN.form); (have e2 : Below W0.heap.size W0 w2 := Below.then (by go_grown) b2); (have S2 := e2.size); (first | (have qY := Quad.below b2 (Quad.new _ _ _ _ _); (try simp only [alloc_sizeC] at qY); (try simp only [drew_sizeC] at qY); (try simp only [hsz] at qY); (obtain ⟨y0, y1, y2, y3, y4, y5, y6, y7⟩ := qY.cells); (have ltqY := qY.lt)) | (have qY := Quad.below b2 qX; (try simp only [alloc_sizeC] at qY); (try simp only [drew_sizeC] at qY); (try simp only [hsz] at qY); (obtain ⟨y0, y1, y2, y3, y4, y5, y6, y7⟩ := qY.cells); (have ltqY := qY.lt)) | (have qY := Quad.below b2 (Quad.drewC (Quad.new _ _ _ _ _)); (try simp only [alloc_sizeC] at qY); (try simp only [drew_sizeC] at qY); (try simp only [hsz] at qY); (obtain ⟨y0, y1, y2, y3, y4, y5, y6, y7⟩ := qY.cells); (have ltqY := qY.lt)) | skip)))))
    all_goals go_wp2_with fail
    all_goals go_meet
    all_goals first
      | (with_reducible refine asmEndN er hO ?_ (Below.then bw e2) (q6.below e2))
      | (with_reducible refine asmEndS er hO ?_ (Below.then bw e2) (q6.below e2) (by assumption) ?_ ?_)
    all_goals first | omega | (simp only [alloc_sizeC]; omega)
  case rest =>
    obtain ⟨R8, k8, s8, l8, d8, n8, m8, e8, i8, j8, f8, rfl, rfl, hR8, qx8, qx6, hS, BX⟩ := hcut
    clear CC1 CF H0 mm hf1 hcm1 q6 bw G1 G2 G3 G1d G2d G3d hix m0
    obtain ⟨x0, x1, x2, x3, x4, x5, x6, x7⟩ := qx6.cells
    by_cases hr : rightB sh = true
    · have e : (AF, er) = (allF k sh, 0) := by rw [← HAF.out, filledS, if_pos hr]
      simp only [Prod.mk.injEq] at e
      obtain ⟨rfl, rfl⟩ := e
      have hsh := HSH.out
      have hrcm : rightB cm = true := by
        have := right_drop (k := fr.length) (show rightB (fr ++ cm) = true by rw [hsh]; exact hr)
        rwa [List.drop_left] at this
      have hrfr : rightB fr = true := by
        have := right_take (k := fr.length) (show rightB (fr ++ cm) = true by rw [hsh]; exact hr)
        rwa [List.take_left] at this
      obtain ⟨m, hm⟩ : ∃ m, prN cm = m := ⟨_, rfl⟩
      have hpr : pr cm = (m : Int) := by
        have := pr_nn (right_def.1 hrcm).2.1
        rw [← hm]; unfold prN; omega
      have hsz : sizeS cm = (m : Int) := by rw [sizeS, if_pos hrcm, hpr]
      have hN : l.length * m = prN sh := by rw [← hsh, prN_append (right_def.1 hrfr).2.1 (right_def.1 hrcm).2.1, hlen hrfr, hm]
      have hC : AsmC w wc.heap.size R8 (.int .i64 k8) (.slice s8 l8 d8) (.slice n8 m8 e8) (.slice i8 j8 f8) wc := ⟨Nat.le_refl _, BX, qx8, qx6⟩
      obtain ⟨D, D', vI, vA, hD, hD0⟩ := asm_data hC hS hk hN hne hl6 hm.symm hrcm hcm hok (nums_bd h)
      have hAS : asmS k fr cm l = outA (asmA k sh cm l) := by rw [asmS, hsh, if_pos hr]
      have HAS : Hid (asmS k fr cm l = outA (asmA k sh cm l)) := hAS
      have CS := fun W (g : IntsAt W ca cc cm) => shSizeP ca cc cm W g
      rw [hsz] at CS
      have hcx := hcm.below BX
      have hNl : Hid (l.length * m = prN sh) := hN
      clear hS hC hAS HAF hsz hpr hN hsh
      go_wp2_with (go_at_call 59; refine (CS _ hcx).mono ?_; rintro e w1 ⟨rfl, rfl⟩)
      go_loopw [33] (fun i wr => ∃ j : Nat, j ≤ l.length ∧ i = .int .i64 j ∧ D j wr) (fun i _ => l.length - (intOf i).toNat)
      case atStart => exact ⟨0, Nat.zero_le _, rfl, hD0⟩
      case round =>
        clear hD0 qx8 qx6 BX hcx x0 x1 x2 x3 x4 x5 x6 x7 CS
        obtain ⟨j, hj, rfl, hDj⟩ := hrel
        have hCj := hD.keepC _ _ hDj
        by_cases hlt : j < l.length
        · obtain ⟨kj, saj, scj, naj, lnj, ncj, iaj, lij, icj, ⟨t0, t1, t2, t3⟩, -, hAj, -⟩ := h.shape hlt
          have hbw := hCj.bel
          have y0 := (hbw.cell (cell_lt t0)).trans t0
          have y1 := (hbw.cell (cell_lt t1)).trans t1
          have y2 := (hbw.cell (cell_lt t2)).trans t2
          have y3 := (hbw.cell (cell_lt t3)).trans t3
          have hixj := items_at (ia := some ⟨b, off, none⟩) (b := b) (off := off) (l := l) (ic := c) rfl (fun _ => rfl) hlt
          have bq := below_new wr (.cells #[.int .i64 kj, .slice saj l[j].shape.length scj, .slice naj lnj ncj, .slice iaj lij icj] 26)
          have qq := Quad.new wr (.int .i64 kj) (.slice saj l[j].shape.length scj) (.slice naj lnj ncj) (.slice iaj lij icj)
          have hDq := hD.bel _ _ _ hDj bq
          have hBI := fun W => hD.bI j hlt W
          have hBA := fun W => hD.bA j hlt W
          have hPI := fun W (g : D j W) => hD.pI j hlt W _ _ _ _ _ _ _ _ _ _ hAj g
          have hPA := fun W (g : D' j W) => hD.pA j hlt W _ _ _ _ _ _ _ _ _ _ hAj g
          clear t0 t1 t2 t3 hAj hbw
          generalize l[j].shape.length = lsj at *
          generalize vI j = vi at *
          generalize vA j = va at *
          have hCq := hCj.below bq
          obtain ⟨p0, p1, p2, p3, -⟩ := hCq.q8.cells
          obtain ⟨r0, r1, r2, r3, -⟩ := qq.cells
          have hne12 : wr.heap.size ≠ R8 := by have := hCj.q8.lt; omega
          obtain ⟨qb, hqb⟩ : ∃ qb, wr.heap.size = qb := ⟨_, rfl⟩
          have hqS : wc.heap.size ≤ qb := by rw [← hqb]; exact hCj.siz
          rw [hqb] at qq hne12 r0 r1 r2 r3
          obtain ⟨Wq, hWq⟩ : ∃ Wq, Wq = wr.alloc (.cells #[.int .i64 kj, .slice saj lsj scj, .slice naj lnj ncj, .slice iaj lij icj] 26) := ⟨_, rfl⟩
          have H8 : ∀ W : World, Quad W R8 (.int .i64 k8) (.slice s8 l8 d8) (.slice n8 m8 e8) (.slice i8 j8 f8) → Quad W qb (.int .i64 kj) (.slice saj lsj scj) (.slice naj lnj ncj) (.slice iaj lij icj) → (W.cell? ⟨R8, 0, none⟩ = some (.int .i64 k8) ∧ W.cell? ⟨R8, 1, none⟩ = some (.slice s8 l8 d8) ∧ W.cell? ⟨R8, 2, none⟩ = some (.slice n8 m8 e8) ∧ W.cell? ⟨R8, 3, none⟩ = some (.slice i8 j8 f8)) ∧ (W.cell? ⟨qb, 0, none⟩ = some (.int .i64 kj) ∧ W.cell? ⟨qb, 1, none⟩ = some (.slice saj lsj scj) ∧ W.cell? ⟨qb, 2, none⟩ = some (.slice naj lnj ncj) ∧ W.cell? ⟨qb, 3, none⟩ = some (.slice iaj lij icj)) := by
            intro W h1 h2
            obtain ⟨a0, a1, a2, a3, -⟩ := h1.cells
            obtain ⟨b0, b1, b2, b3, -⟩ := h2.cells
            exact ⟨⟨a0, a1, a2, a3⟩, b0, b1, b2, b3⟩
          have hst := H8 _ hCq.q8 qq
          clear r0 r1 r2 r3 p0 p1 p2 p3
          rw [← hWq] at hDq hCq qq hst bq
          have hP1 := hPI Wq hDq
          have hP2 := hPI Wq.drew (hD.bel _ _ _ hDq ⟨rfl, rfl, rfl, Nat.le_refl _, fun _ _ => rfl⟩)
          obtain ⟨⟨p0, p1, p2, p3⟩, r0, r1, r2, r3⟩ := id hst
          have hst' : Hid ((Wq.cell? ⟨R8, 0, none⟩ = some (.int .i64 k8) ∧ Wq.cell? ⟨R8, 1, none⟩ = some (.slice s8 l8 d8) ∧ Wq.cell? ⟨R8, 2, none⟩ = some (.slice n8 m8 e8) ∧ Wq.cell? ⟨R8, 3, none⟩ = some (.slice i8 j8 f8)) ∧ (Wq.cell? ⟨qb, 0, none⟩ = some (.int .i64 kj) ∧ Wq.cell? ⟨qb, 1, none⟩ = some (.slice saj lsj scj) ∧ Wq.cell? ⟨qb, 2, none⟩ = some (.slice naj lnj ncj) ∧ Wq.cell? ⟨qb, 3, none⟩ = some (.slice iaj lij icj))) := hst
          clear hst
          go_wp2_with fail
          rw [← hWq]
          clear hWq
          go_region_held3 (fun W => (W.cell? ⟨R8, 0, none⟩ = some (.int .i64 k8) ∧ W.cell? ⟨R8, 1, none⟩ = some (.slice s8 l8 d8) ∧ W.cell? ⟨R8, 2, none⟩ = some (.slice n8 m8 e8) ∧ W.cell? ⟨R8, 3, none⟩ = some (.slice i8 j8 f8)) ∧ (W.cell? ⟨qb, 0, none⟩ = some (.int .i64 kj) ∧ W.cell? ⟨qb, 1, none⟩ = some (.slice saj lsj scj) ∧ W.cell? ⟨qb, 2, none⟩ = some (.slice naj lnj ncj) ∧ W.cell? ⟨qb, 3, none⟩ = some (.slice iaj lij icj)))
            (first | exact hst'.out | exact hs2.out | assumption)
            ((first
            | (go_at_call 47; (with_reducible refine (hBI _).mono ?_); rintro e w1 ⟨rfl, rfl⟩)
            | (go_at_call 76; (first | (with_reducible refine hP1.mono ?_) | (with_reducible refine hP2.mono ?_)); rintro e w2 ⟨rfl, hD2, t, ht, hbt⟩; (have q82 := (hD.keepC' _ _ hD2).q8); (have qq2 := qq.keep (hbt.block qb (by omega) qq.lt)); (have hs2 : Hid ((w2.cell? ⟨R8, 0, none⟩ = some (.int .i64 k8) ∧ w2.cell? ⟨R8, 1, none⟩ = some (.slice s8 l8 d8) ∧ w2.cell? ⟨R8, 2, none⟩ = some (.slice n8 m8 e8) ∧ w2.cell? ⟨R8, 3, none⟩ = some (.slice i8 j8 f8)) ∧ (w2.cell? ⟨qb, 0, none⟩ = some (.int .i64 kj) ∧ w2.cell? ⟨qb, 1, none⟩ = some (.slice saj lsj scj) ∧ w2.cell? ⟨qb, 2, none⟩ = some (.slice naj lnj ncj) ∧ w2.cell? ⟨qb, 3, none⟩ = some (.slice iaj lij icj))) := H8 w2 q82 qq2))))
          obtain ⟨⟨g0, g1, g2, g3⟩, u0, u1, u2, u3⟩ := id hs2.out
          have hA1 := hPA w2 hD2
          have hA2 := hPA w2.drew (hD.bel' _ _ _ hD2 ⟨rfl, rfl, rfl, Nat.le_refl _, fun _ _ => rfl⟩)
          clear p0 p1 p2 p3 r0 r1 r2 r3 hP1 hP2 hBI hst' hDq hCq
          go_wp2_with fail
          go_region_held3 (fun W => (W.cell? ⟨R8, 0, none⟩ = some (.int .i64 k8) ∧ W.cell? ⟨R8, 1, none⟩ = some (.slice s8 l8 d8) ∧ W.cell? ⟨R8, 2, none⟩ = some (.slice n8 m8 e8) ∧ W.cell? ⟨R8, 3, none⟩ = some (.slice i8 j8 f8)) ∧ (W.cell? ⟨qb, 0, none⟩ = some (.int .i64 kj) ∧ W.cell? ⟨qb, 1, none⟩ = some (.slice saj lsj scj) ∧ W.cell? ⟨qb, 2, none⟩ = some (.slice naj lnj ncj) ∧ W.cell? ⟨qb, 3, none⟩ = some (.slice iaj lij icj)))
            (first | exact hs2.out | exact hs3.out | assumption)
            ((first
            | (go_at_call 48; (with_reducible refine (hBA _).mono ?_); rintro e w1' ⟨rfl, rfl⟩)
            | (go_at_call 77; (first | (with_reducible refine hA1.mono ?_) | (with_reducible refine hA2.mono ?_)); rintro e w3 ⟨rfl, hD3, t', ht', hbt'⟩; (have q83 := (hD.keepC _ _ hD3).q8); (have qq3 := qq2.keep (hbt'.block qb (by omega) qq2.lt)); (have hs3 : Hid ((w3.cell? ⟨R8, 0, none⟩ = some (.int .i64 k8) ∧ w3.cell? ⟨R8, 1, none⟩ = some (.slice s8 l8 d8) ∧ w3.cell? ⟨R8, 2, none⟩ = some (.slice n8 m8 e8) ∧ w3.cell? ⟨R8, 3, none⟩ = some (.slice i8 j8 f8)) ∧ (w3.cell? ⟨qb, 0, none⟩ = some (.int .i64 kj) ∧ w3.cell? ⟨qb, 1, none⟩ = some (.slice saj lsj scj) ∧ w3.cell? ⟨qb, 2, none⟩ = some (.slice naj lnj ncj) ∧ w3.cell? ⟨qb, 3, none⟩ = some (.slice iaj lij icj))) := H8 w3 q83 qq3))))
          go_wp2_with fail
          refine ⟨⟨j + 1, by omega, by go_num, hD3⟩, ?_⟩
          simp [intOf]; omega
        · obtain rfl : j = l.length := by omega
          have hRA := hD.fin wr hDj
          have hRR := reach_asm hk hrcm hr hm.symm hNl hok hreach
          have K := weightQ _ _ wr hRA hRR
          obtain ⟨p0, p1, p2, p3, -⟩ := hCj.q8.cells
          obtain ⟨T, hT⟩ : ∃ T, wt (asmA k sh cm l) = T := ⟨_, rfl⟩
          have HT : Hid (wt (asmA k sh cm l) = T) := hT
          rw [hT] at K
          clear hT
          have q6 := hCj.q6
          have B6 := hCj.bel
          by_cases hbig : 262144 < T
          · have HO : Hid (asmS k fr cm l = (zeroA, 21)) := by unfold Hid; rw [HAS.out]; exact outA_big (by rw [HT.out]; exact hbig)
            go_wp2_with (go_at_call 78; refine K.mono ?_; rintro e w4 ⟨rfl, hb4⟩; (obtain ⟨s0, s1, s2, s3, s4, s5, s6, s7⟩ := (q6.below hb4).cells))
            have q3 := q6.below hb4
            have G := give_set4 (w := w) (Nat.le_refl w.heap.size) q3 (zero_on _ _) (Below.then B6 hb4)
            obtain ⟨QW, -⟩ := set4 q3 (.int .i64 0) (.slice none 0 0) (.slice none 0 0) (.slice none 0 0)
            generalize ((((w4.setCell ⟨w.heap.size, 0, none⟩ (.int .i64 0)).setCell ⟨w.heap.size, 1, none⟩ (.slice none 0 0)).setCell ⟨w.heap.size, 2, none⟩ (.slice none 0 0)).setCell ⟨w.heap.size, 3, none⟩ (.slice none 0 0)) = WW at QW G ⊢
            obtain ⟨z0, z1, z2, z3, -⟩ := QW.cells
            exact bodyPost_ret (v := .tuple #[.agg #[.int .i64 0, .slice none 0 0, .slice none 0 0, .slice none 0 0], .int .i64 21]) (by simp [results, Try.results53, go_sem, z0, z1, z2, z3]) rfl (by rw [HO.out]; exact GiveNewE.mk G)
          · have HO : Hid (asmS k fr cm l = (asmA k sh cm l, 0)) := by unfold Hid; rw [HAS.out]; exact outA_ok (by rw [HT.out]; exact hbig)
            go_wp2_with (first
              | (go_at_call 78; refine K.mono ?_; rintro e w4 ⟨rfl, hb4⟩; (obtain ⟨u0, u1, u2, u3, -⟩ := (hCj.q8.below hb4).cells))
              | (go_at_call 49; refine (cloneN _ _ _ (hRA.below hb4) hRR).mono ?_; intro e w5 hN; (obtain ⟨kr, sar, lsr, scr, nar, lnr, ncr, iar, lir, icr, rfl, hO, hb5⟩ := hN.form); (obtain ⟨s0, s1, s2, s3, s4, s5, s6, s7⟩ := ((q6.below hb4).below hb5).cells)))
            have q3 := (q6.below hb4).below hb5
            have hs6 := hb4.size
            have hlr := q6.lt
            have G := give_set4 (w := w) (Nat.le_refl w.heap.size) q3 (hO.mono fun g hg => by omega) (Below.then (Below.then B6 hb4) hb5)
            obtain ⟨QW, -⟩ := set4 q3 (.int .i64 kr) (.slice sar lsr scr) (.slice nar lnr ncr) (.slice iar lir icr)
            generalize ((((w5.setCell ⟨w.heap.size, 0, none⟩ (.int .i64 kr)).setCell ⟨w.heap.size, 1, none⟩ (.slice sar lsr scr)).setCell ⟨w.heap.size, 2, none⟩ (.slice nar lnr ncr)).setCell ⟨w.heap.size, 3, none⟩ (.slice iar lir icr)) = WW at QW G ⊢
            obtain ⟨z0, z1, z2, z3, -⟩ := QW.cells
            exact bodyPost_ret (v := .tuple #[.agg #[.int .i64 kr, .slice sar lsr scr, .slice nar lnr ncr, .slice iar lir icr], .int .i64 0]) (by simp [results, Try.results53, go_sem, z0, z1, z2, z3]) rfl (by rw [HO.out]; exact GiveNewE.mk G)
    · have e : (AF, er) = (zeroA, 21) := by rw [← HAF.out, filledS, if_neg hr]
      simp only [Prod.mk.injEq] at e
      obtain ⟨rfl, rfl⟩ := e
      have hAS : asmS k fr cm l = (zeroA, 21) := by rw [asmS, HSH.out, if_neg hr]
      have HAS : Hid (asmS k fr cm l = (zeroA, 21)) := hAS
      clear hAS HAF
      go_wp2_with fail
      have G := give_set4 (w := w) (Nat.le_refl w.heap.size) qx6 (zero_on _ _) BX
      obtain ⟨QW, -⟩ := set4 qx6 (.int .i64 0) (.slice none 0 0) (.slice none 0 0) (.slice none 0 0)
      generalize ((((wc.setCell ⟨w.heap.size, 0, none⟩ (.int .i64 0)).setCell ⟨w.heap.size, 1, none⟩ (.slice none 0 0)).setCell ⟨w.heap.size, 2, none⟩ (.slice none 0 0)).setCell ⟨w.heap.size, 3, none⟩ (.slice none 0 0)) = WW at QW G ⊢
      obtain ⟨z0, z1, z2, z3, -⟩ := QW.cells
      exact bodyPost_ret (v := .tuple #[.agg #[.int .i64 0, .slice none 0 0, .slice none 0 0, .slice none 0 0], .int .i64 21]) (by simp [results, Try.results53, go_sem, z0, z1, z2, z3]) rfl (by rw [HAS.out]; exact GiveNewE.mk G)
end Go.Proofs.Ytblgpnijiefopaa.Shape

namespace Go.Proofs.Ytblgpnijiefopaa.Shape
open Go.RowKit
set_option linter.unusedVariables false

/-- No dimension of the array is greater than that of the shape on the same axis. -/
def smallB (tt sh : List Int) : Bool := (List.range sh.length).all fun i => decide (sh.getD i 0 ≤ tt.getD (tt.length - sh.length + i) 0)
theorem smallB_iff {tt sh : List Int} : smallB tt sh = true ↔ ∀ i, i < sh.length → sh.getD i 0 ≤ tt.getD (tt.length - sh.length + i) 0 := by
  simp [smallB]
theorem fits_of : ∀ (n : Nat) (a b : List Int), a.length = n → b.length = n → (∀ (i : Nat) (x y : Int), b[i]? = some x → a[i]? = some y → x ≤ y) → fits a b
  | 0, a, b, ha, hb, _ => by
    obtain rfl := List.eq_nil_of_length_eq_zero ha
    obtain rfl := List.eq_nil_of_length_eq_zero hb
    rw [fits]; trivial
  | n + 1, [], _, ha, _, _ => by simp at ha
  | n + 1, _ :: _, [], _, hb, _ => by simp at hb
  | n + 1, t :: ts, f :: fs, ha, hb, h => by
    rw [fits]
    exact ⟨h 0 f t rfl rfl, fits_of n ts fs (by simpa using ha) (by simpa using hb) fun i x y hx hy => h (i + 1) x y (by simpa using hx) (by simpa using hy)⟩
theorem small_fits {tt sh : List Int} (hl : sh.length ≤ tt.length) (h1 : ∀ x ∈ tt, 1 ≤ x) (hs : smallB tt sh = true) : fits tt (leadS sh tt.length) := by
  refine fits_of tt.length tt _ rfl (leadS_len hl) fun i x y hx hy => ?_
  have hit : i < tt.length := (List.getElem?_eq_some_iff.1 hy).1
  by_cases hi : i < tt.length - sh.length
  · rw [(leadS_at hl hit).1 hi] at hx
    cases hx
    exact h1 y (List.mem_of_getElem? hy)
  · rw [(leadS_at hl hit).2 (by omega)] at hx
    have e : tt.length - sh.length + (i - (tt.length - sh.length)) = i := by omega
    have hs' := smallB_iff.1 hs (i - (tt.length - sh.length)) (by omega)
    rw [e, List.getD_eq_getElem?_getD, List.getD_eq_getElem?_getD, hx, hy] at hs'
    exact hs'
theorem pos_of_prN : ∀ {xs : List Int}, NN xs → prN xs ≠ 0 → ∀ x ∈ xs, 1 ≤ x
  | [], _, _, x, hx => by cases hx
  | a :: r, hn, h, x, hx => by
    rw [prN_cons hn.head hn.tail] at h
    rcases List.mem_cons.1 hx with rfl | hx
    · have := hn.head
      have : x.toNat ≠ 0 := fun e => h (by rw [e, Nat.zero_mul])
      omega
    · exact pos_of_prN hn.tail (fun e => h (by rw [e, Nat.mul_zero])) x hx
theorem GiveNewE.formOn {A : Arr} {er : Int} {w w' : World} {e : Ending} (h : GiveNewE A er w e w') : ∃ k sa ls sc na ln nc ia li ic, e = .returned (.tuple #[.agg #[.int .i64 k, .slice sa ls sc, .slice na ln nc, .slice ia li ic], .int .i64 er]) ∧
    ArrOn (fun g => w.heap.size ≤ g) w' (.agg #[.int .i64 k, .slice sa ls sc, .slice na ln nc, .slice ia li ic]) A ∧ Below w.heap.size w w' := by
  obtain ⟨c0, c1, c2, c3, rfl, hg⟩ := h
  obtain ⟨k, sa, ls, sc, na, ln, nc, ia, li, ic, hv, hO, hb⟩ := hg.form
  simp only [Ending.returned.injEq] at hv
  exact ⟨k, sa, ls, sc, na, ln, nc, ia, li, ic, by rw [hv], hO, hb⟩
/-- What Pad gives. -/
def padA (A : Arr) (tt : List Int) : Arr × Int :=
  if rightE A = 0 then
    if rightB tt = true then
      if tt.length < A.shape.length then (zeroA, 15) else if smallB tt A.shape = true then asmS A.kind [] tt [A] else (zeroA, 16)
    else (zeroA, 1)
  else (zeroA, 1)
theorem okay_pad {A : Arr} {tt : List Int} (hx : rightE A = 0) (hr : rightB tt = true) (hl : A.shape.length ≤ tt.length) (hs : smallB tt A.shape = true) : ∀ B ∈ [A], Okay A.kind tt B := by
  intro B hB
  obtain rfl := List.mem_singleton.1 hB
  have h := right_lens hx
  exact ⟨rfl, (right_def.1 (right_short hx)).2.1, hl, fun h0 => small_fits hl (pos_of_prN (right_def.1 hr).2.1 h0) hs, h.2.2.1, h.2.2.2.1⟩

set_option maxRecDepth 100000 in
set_option maxHeartbeats 2000000 in
theorem padQ (v : Value) (A : Arr) (ta : Option Addr) (tc : Nat) (tt : List Int) (w : World) (h : ArrAt w v A) (ht : IntsAt w ta tc tt) (hR : Reach A) :
    Calls Try.prog 23 #[v, .slice ta tt.length tc] w (GiveNewE (padA A tt).1 (padA A tt).2 w) := by
  have h0 := h
  obtain ⟨kk, sa, ls, sc, na, ln, nc, ia, li, ic, rfl, hs, hls, hkk⟩ : ∃ kk sa ls sc na ln nc ia li ic, v = .agg #[.int .i64 kk, .slice sa ls sc, .slice na ln nc, .slice ia li ic] ∧ IntsAt w sa sc A.shape ∧ ls = A.shape.length ∧ kk = A.kind := by
    obtain ⟨kk, sh, nu, it⟩ := A
    rw [ArrAt] at h
    obtain ⟨sa, sc, na, nc, ia, ic, hv, -, hs, -⟩ := h
    exact ⟨_, _, _, _, _, _, _, _, _, _, hv, hs, rfl, rfl⟩
  subst hls
  have HKK : Hid (kk = A.kind) := hkk
  clear hkk
  have bw := below_two w (.cells #[.int .i64 kk, .slice sa A.shape.length sc, .slice na ln nc, .slice ia li ic] 26) (.cells #[.int .i64 0, .slice none 0 0, .slice none 0 0, .slice none 0 0] 26)
  have q0 := (Quad.new w (.int .i64 kk) (.slice sa A.shape.length sc) (.slice na ln nc) (.slice ia li ic)).below (below_new _ (.cells #[.int .i64 0, .slice none 0 0, .slice none 0 0, .slice none 0 0] 26))
  have q4 : Quad ((w.alloc (.cells #[.int .i64 kk, .slice sa A.shape.length sc, .slice na ln nc, .slice ia li ic] 26)).alloc (.cells #[.int .i64 0, .slice none 0 0, .slice none 0 0, .slice none 0 0] 26)) (w.heap.size + 1) (.int .i64 0) (.slice none 0 0) (.slice none 0 0) (.slice none 0 0) := by
    simpa using Quad.new (w.alloc (.cells #[.int .i64 kk, .slice sa A.shape.length sc, .slice na ln nc, .slice ia li ic] 26)) (.int .i64 0) (.slice none 0 0) (.slice none 0 0) (.slice none 0 0)
  have hA := h0.below bw
  have hs1 := hs.below bw
  have ht1 := ht.below bw
  have hlt := ht.len
  have hlsh := hs.len
  obtain ⟨x, hx⟩ : ∃ x, rightE A = x := ⟨_, rfl⟩
  have R := fun v' w' (g : ArrAt w' v' A) => rightQ v' A w' g
  rw [hx] at R
  have T := fun W (g : IntsAt W ta tc tt) => shRightP ta tc tt W g
  obtain ⟨y, hy⟩ : ∃ y, rightB tt = y := ⟨_, rfl⟩
  rw [hy] at T
  have HA : ∀ W, Below w.heap.size w W → ∀ b, W.heap[b]? = some (.cells #[.int .i64 kk, .slice sa A.shape.length sc, .slice na ln nc, .slice ia li ic] 26 (0, 0)) → x = 0 → y = true → A.shape.length ≤ tt.length → smallB tt A.shape = true →
      Calls Try.prog 53 #[.slice none 0 0, .slice ta tt.length tc, .slice (some ⟨b, 0, none⟩) 1 1] W (GiveNewE (asmS A.kind [] tt [A]).1 (asmS A.kind [] tt [A]).2 W) := by
    intro W hW b hb hx0 hy0 hl hsm
    have hr : rightB tt = true := by rw [hy]; exact hy0
    have hxx : rightE A = 0 := by rw [hx]; exact hx0
    have h8 := (right_def.1 hr).1
    have hcell : ArrsAt W b 0 [A] := by
      rw [ArrsAt, ArrsAt]
      refine ⟨⟨_, _, _, _, ⟨?_, ?_, ?_, ?_⟩, h0.below hW⟩, trivial⟩
      all_goals (simp [World.cell?, hb]; try rfl)
    exact asmX none 0 [] ta tc tt (some ⟨b, 0, none⟩) 1 [A] A.kind W b 0 (ints_nil W) (ht.below hW) ⟨by simp, by omega⟩ (Nat.le_refl _) (by decide) (by simp) (by simp) (fun _ => rfl) rfl hcell ⟨(right_lens hxx).2.2.2.2.1, (right_lens hxx).2.2.2.2.2⟩ (okay_pad hxx hr hl hsm) (fun B hB => by rw [List.mem_singleton.1 hB]; exact hR)
  by_cases hx0 : x = 0
  · have e1 : (x != 0) = false := by simpa using hx0
    cases y with
    | false =>
      have HP : Hid (padA A tt = (zeroA, 1)) := by unfold Hid; rw [padA, if_pos (by rw [hx]; exact hx0), if_neg (by rw [hy]; decide)]
      clear HA
      go_enter Try.func23, Try.ntmps23
      go_wp2_with (first
        | (go_at_call 44; refine (R _ _ hA).mono ?_; rintro e w1 ⟨rfl, hb1⟩; (obtain ⟨s0, s1, s2, s3, s4, s5, s6, s7⟩ := (q4.below hb1).cells); (obtain ⟨p0, p1, p2, p3, -⟩ := (q0.below hb1).cells); (have hsw := hs1.below hb1); (have htw := ht1.below hb1))
        | (go_at_call 52; refine (T _ htw).mono ?_; rintro e w1' ⟨rfl, rfl⟩))
      have q3 := q4.below hb1
      have G := give_set4 (Nat.le_succ w.heap.size) q3 (zero_on _ _) (Below.then bw hb1)
      obtain ⟨QW, -⟩ := set4 q3 (.int .i64 0) (.slice none 0 0) (.slice none 0 0) (.slice none 0 0)
      generalize ((((w1.setCell ⟨w.heap.size + 1, 0, none⟩ (.int .i64 0)).setCell ⟨w.heap.size + 1, 1, none⟩ (.slice none 0 0)).setCell ⟨w.heap.size + 1, 2, none⟩ (.slice none 0 0)).setCell ⟨w.heap.size + 1, 3, none⟩ (.slice none 0 0)) = WW at QW G ⊢
      obtain ⟨z0, z1, z2, z3, -⟩ := QW.cells
      exact bodyPost_ret (v := .tuple #[.agg #[.int .i64 0, .slice none 0 0, .slice none 0 0, .slice none 0 0], .int .i64 1]) (by simp [results, Try.results23, go_sem, z0, z1, z2, z3]) rfl (by rw [HP.out]; exact GiveNewE.mk G)
    | true =>
      by_cases hl : tt.length < A.shape.length
      · have HP : Hid (padA A tt = (zeroA, 15)) := by unfold Hid; rw [padA, if_pos (by rw [hx]; exact hx0), if_pos hy, if_pos hl]
        have e3 : (tt.length : Int) - (A.shape.length : Int) < 0 := by omega
        clear HA
        go_enter Try.func23, Try.ntmps23
        go_wp2_with (first
          | (go_at_call 44; refine (R _ _ hA).mono ?_; rintro e w1 ⟨rfl, hb1⟩; (obtain ⟨s0, s1, s2, s3, s4, s5, s6, s7⟩ := (q4.below hb1).cells); (obtain ⟨p0, p1, p2, p3, -⟩ := (q0.below hb1).cells); (have hsw := hs1.below hb1); (have htw := ht1.below hb1))
          | (go_at_call 52; refine (T _ htw).mono ?_; rintro e w1' ⟨rfl, rfl⟩))
        have q3 := q4.below hb1
        have G := give_set4 (Nat.le_succ w.heap.size) q3 (zero_on _ _) (Below.then bw hb1)
        obtain ⟨QW, -⟩ := set4 q3 (.int .i64 0) (.slice none 0 0) (.slice none 0 0) (.slice none 0 0)
        generalize ((((w1.setCell ⟨w.heap.size + 1, 0, none⟩ (.int .i64 0)).setCell ⟨w.heap.size + 1, 1, none⟩ (.slice none 0 0)).setCell ⟨w.heap.size + 1, 2, none⟩ (.slice none 0 0)).setCell ⟨w.heap.size + 1, 3, none⟩ (.slice none 0 0)) = WW at QW G ⊢
        obtain ⟨z0, z1, z2, z3, -⟩ := QW.cells
        exact bodyPost_ret (v := .tuple #[.agg #[.int .i64 0, .slice none 0 0, .slice none 0 0, .slice none 0 0], .int .i64 15]) (by simp [results, Try.results23, go_sem, z0, z1, z2, z3]) rfl (by rw [HP.out]; exact GiveNewE.mk G)
      · obtain ⟨ms, hms⟩ : ∃ ms, tt.length - A.shape.length = ms := ⟨_, rfl⟩
        have e3 : (tt.length : Int) - (A.shape.length : Int) = (ms : Int) := by omega
        have HS : Hid (smallB tt A.shape = true ↔ ∀ i, i < A.shape.length → A.shape.getD i 0 ≤ tt.getD (ms + i) 0) := by unfold Hid; rw [← hms]; exact smallB_iff
        have HA' : Hid (∀ W, Below w.heap.size w W → ∀ b, W.heap[b]? = some (.cells #[.int .i64 kk, .slice sa A.shape.length sc, .slice na ln nc, .slice ia li ic] 26 (0, 0)) → smallB tt A.shape = true →
            Calls Try.prog 53 #[.slice none 0 0, .slice ta tt.length tc, .slice (some ⟨b, 0, none⟩) 1 1] W (GiveNewE (asmS A.kind [] tt [A]).1 (asmS A.kind [] tt [A]).2 W)) := fun W hW b hb hsm => HA W hW b hb hx0 rfl (by omega) hsm
        have HP1 : Hid (smallB tt A.shape = true → padA A tt = asmS A.kind [] tt [A]) := fun h => by rw [padA, if_pos (by rw [hx]; exact hx0), if_pos hy, if_neg hl, if_pos h]
        have HP2 : Hid (¬ smallB tt A.shape = true → padA A tt = (zeroA, 16)) := fun h => by rw [padA, if_pos (by rw [hx]; exact hx0), if_pos hy, if_neg hl, if_neg h]
        clear HA
        go_enter Try.func23, Try.ntmps23
        go_wp2_with (first
          | (go_at_call 44; refine (R _ _ hA).mono ?_; rintro e w1 ⟨rfl, hb1⟩; (obtain ⟨s0, s1, s2, s3, s4, s5, s6, s7⟩ := (q4.below hb1).cells); (obtain ⟨p0, p1, p2, p3, -⟩ := (q0.below hb1).cells); (have hsw := hs1.below hb1); (have htw := ht1.below hb1))
          | (go_at_call 52; refine (T _ htw).mono ?_; rintro e w1' ⟨rfl, rfl⟩))
        go_loop [30] (fun i => ∃ j : Nat, j ≤ A.shape.length ∧ i = .int .i64 j ∧ ∀ i', i' < j → A.shape.getD i' 0 ≤ tt.getD (ms + i') 0) (fun i => A.shape.length - (intOf i).toNat)
        case atStart => exact ⟨0, Nat.zero_le _, rfl, fun i' h => absurd h (Nat.not_lt_zero _)⟩
        case round =>
          obtain ⟨j, hj, rfl, hall⟩ := hrel
          by_cases hlt2 : j < A.shape.length
          · obtain ⟨b1, o1, hi1, hc1⟩ := hsw.at hlt2
            have hmj : ms + j < tt.length := by omega
            obtain ⟨b2, o2, hi2, hc2⟩ := htw.at hmj
            obtain ⟨q, hq⟩ : ∃ q, ms + j = q := ⟨_, rfl⟩
            have e4 : (ms : Int) + (j : Int) = (q : Int) := by omega
            obtain ⟨X, hX⟩ : ∃ X, A.shape[j] = X := ⟨_, rfl⟩
            obtain ⟨Y, hY⟩ : ∃ Y, tt[ms + j] = Y := ⟨_, rfl⟩
            have gX : A.shape.getD j 0 = X := by rw [List.getD_eq_getElem?_getD, List.getElem?_eq_getElem hlt2, hX]; rfl
            have gY : tt.getD (ms + j) 0 = Y := by rw [List.getD_eq_getElem?_getD, List.getElem?_eq_getElem hmj, hY]; rfl
            rw [hX] at hc1
            rw [hY] at hc2
            rw [hq] at hi2 hc2
            have GX : Hid (A.shape.getD j 0 = X) := gX
            have GY : Hid (tt.getD (ms + j) 0 = Y) := gY
            clear hX hY gX gY hq
            by_cases hgt : Y < X
            · have HP : Hid (padA A tt = (zeroA, 16)) := HP2.out fun h => by
                have := HS.out.1 h j hlt2
                rw [GX.out, GY.out] at this
                omega
              clear hall HP1 HP2 HA'
              go_wp2_with fail
              have q3 := q4.below hb1
              have G := give_set4 (Nat.le_succ w.heap.size) q3 (zero_on _ _) (Below.then bw hb1)
              obtain ⟨QW, -⟩ := set4 q3 (.int .i64 0) (.slice none 0 0) (.slice none 0 0) (.slice none 0 0)
              generalize ((((w1.setCell ⟨w.heap.size + 1, 0, none⟩ (.int .i64 0)).setCell ⟨w.heap.size + 1, 1, none⟩ (.slice none 0 0)).setCell ⟨w.heap.size + 1, 2, none⟩ (.slice none 0 0)).setCell ⟨w.heap.size + 1, 3, none⟩ (.slice none 0 0)) = WW at QW G ⊢
              obtain ⟨z0, z1, z2, z3, -⟩ := QW.cells
              exact bodyPost_ret (v := .tuple #[.agg #[.int .i64 0, .slice none 0 0, .slice none 0 0, .slice none 0 0], .int .i64 16]) (by simp [results, Try.results23, go_sem, z0, z1, z2, z3]) rfl (by rw [HP.out]; exact GiveNewE.mk G)
            · go_wp2_with fail
              go_round
              case rel => exact ⟨j + 1, by omega, by go_num, fun i' hi' => by
                rcases Nat.lt_succ_iff_lt_or_eq.1 hi' with h | h
                · exact hall i' h
                · rw [h, GX.out, GY.out]; omega⟩
              case measure => simp [intOf]; omega
          · obtain rfl : j = A.shape.length := by omega
            have hsm := HS.out.2 hall
            have HP := HP1.out hsm
            have HPh : Hid (padA A tt = asmS A.kind [] tt [A]) := HP
            have HAs := fun W h1 b h2 => HA'.out W h1 b h2 hsm
            obtain ⟨PA, er, hPA⟩ : ∃ PA er, asmS A.kind [] tt [A] = (PA, er) := ⟨_, _, rfl⟩
            rw [hPA] at HAs
            have HPA : Hid (padA A tt = (PA, er)) := HP.trans hPA
            clear HP HPh hPA HP1 HP2 HS HA' hall hsm
            have hBw := Below.then bw hb1
            have HA1 := HAs (w1.alloc (.cells #[.int .i64 kk, .slice sa A.shape.length sc, .slice na ln nc, .slice ia li ic] 26)) (Below.then hBw (below_new _ _)) w1.heap.size (heap_alloc_new w1 _)
            have bn := below_new w1 (.cells #[.int .i64 kk, .slice sa A.shape.length sc, .slice na ln nc, .slice ia li ic] 26)
            clear HAs
            have q41 := (q4.below hb1).below bn
            go_wp2_with (go_at_call 53; refine HA1.mono ?_; intro e w5 hN; (obtain ⟨kr, sar, lsr, scr, nar, lnr, ncr, iar, lir, icr, rfl, hO, hb5⟩ := GiveNewE.formOn hN); (obtain ⟨y0, y1, y2, y3, y4, y5, y6, y7⟩ := (q41.below hb5).cells))
            have q3 := q41.below hb5
            have hlq := q41.lt
            have G := give_set4 (w := w) (Nat.le_succ w.heap.size) q3 (hO.mono fun g hg => by have hg' := hg; omega) (Below.then (Below.then hBw bn) hb5)
            obtain ⟨QW, -⟩ := set4 q3 (.int .i64 kr) (.slice sar lsr scr) (.slice nar lnr ncr) (.slice iar lir icr)
            generalize ((((w5.setCell ⟨w.heap.size + 1, 0, none⟩ (.int .i64 kr)).setCell ⟨w.heap.size + 1, 1, none⟩ (.slice sar lsr scr)).setCell ⟨w.heap.size + 1, 2, none⟩ (.slice nar lnr ncr)).setCell ⟨w.heap.size + 1, 3, none⟩ (.slice iar lir icr)) = WW at QW G ⊢
            obtain ⟨z0, z1, z2, z3, -⟩ := QW.cells
            exact bodyPost_ret (v := .tuple #[.agg #[.int .i64 kr, .slice sar lsr scr, .slice nar lnr ncr, .slice iar lir icr], .int .i64 er]) (by simp [results, Try.results23, go_sem, z0, z1, z2, z3]) rfl (by rw [HPA.out]; exact GiveNewE.mk G)
  · have HP : Hid (padA A tt = (zeroA, 1)) := by unfold Hid; rw [padA, if_neg (by rw [hx]; exact hx0)]
    have e1 : (x != 0) = true := by simpa using hx0
    clear HA
    go_enter Try.func23, Try.ntmps23
    go_wp2_with (go_at_call 44; refine (R _ _ hA).mono ?_; rintro e w1 ⟨rfl, hb1⟩; (obtain ⟨s0, s1, s2, s3, s4, s5, s6, s7⟩ := (q4.below hb1).cells); (obtain ⟨p0, p1, p2, p3, -⟩ := (q0.below hb1).cells); (have hsw := hs1.below hb1); (have htw := ht1.below hb1))
    have q3 := q4.below hb1
    have G := give_set4 (Nat.le_succ w.heap.size) q3 (zero_on _ _) (Below.then bw hb1)
    obtain ⟨QW, -⟩ := set4 q3 (.int .i64 0) (.slice none 0 0) (.slice none 0 0) (.slice none 0 0)
    generalize ((((w1.setCell ⟨w.heap.size + 1, 0, none⟩ (.int .i64 0)).setCell ⟨w.heap.size + 1, 1, none⟩ (.slice none 0 0)).setCell ⟨w.heap.size + 1, 2, none⟩ (.slice none 0 0)).setCell ⟨w.heap.size + 1, 3, none⟩ (.slice none 0 0)) = WW at QW G ⊢
    obtain ⟨z0, z1, z2, z3, -⟩ := QW.cells
    exact bodyPost_ret (v := .tuple #[.agg #[.int .i64 0, .slice none 0 0, .slice none 0 0, .slice none 0 0], .int .i64 1]) (by simp [results, Try.results23, go_sem, z0, z1, z2, z3]) rfl (by rw [HP.out]; exact GiveNewE.mk G)
end Go.Proofs.Ytblgpnijiefopaa.Shape

namespace Go.Proofs.Ytblgpnijiefopaa.Shape
open Go.RowKit
set_option linter.unusedVariables false

theorem right_wt {A : Arr} (hx : rightE A = 0) : ¬ 262144 < wt A := by
  obtain ⟨k, sh, nu, it⟩ := A
  intro hw
  rw [rightE, chk] at hx
  split at hx
  · simp at hx
  · split at hx
    · rename_i h; exact h hx
    · split at hx
      · simp at hx
      · split at hx
        · simp at hx
        · split at hx
          · simp at hx
          · unfold lastE at hx
            split at hx <;> first | (simp at hx; done) | omega
theorem asmA_self {A : Arr} (hx : rightE A = 0) : asmA A.kind ([] ++ A.shape) A.shape [A] = A := by
  obtain ⟨h1, h2, h3, h4, h5, h6⟩ := right_lens hx
  have hNN := (right_def.1 (right_short hx)).2.1
  obtain ⟨k, sh, nu, it⟩ := A
  simp only [Arr.kind, Arr.shape, Arr.nums, Arr.items] at *
  rw [asmA]
  by_cases hk : k = 3
  · obtain ⟨g1, g2⟩ := h4 hk
    subst g2
    simp only [if_pos hk, List.nil_append, List.map_cons, List.map_nil, List.flatten_cons, List.flatten_nil, List.append_nil, partI, Arr.shape, Arr.items]
    rw [leadS_full (Nat.le_refl _), padS_self _ _ _ hNN g1]
  · obtain ⟨g1, g2⟩ := h3 hk
    subst g2
    simp only [if_neg hk, List.nil_append, List.map_cons, List.map_nil, List.flatten_cons, List.flatten_nil, List.append_nil, partN, Arr.shape, Arr.nums]
    rw [leadS_full (Nat.le_refl _), padS_self _ _ _ hNN g1]

theorem padA_self {A : Arr} (hx : rightE A = 0) : padA A A.shape = (A, 0) := by
  have hr := right_short hx
  rw [padA, if_pos hx, if_pos hr, if_neg (Nat.lt_irrefl _), if_pos (smallB_iff.2 fun i hi => by simp), asmS, List.nil_append, if_pos hr]
  have h := asmA_self hx
  rw [List.nil_append] at h
  rw [h, outA_ok (right_wt hx)]
end Go.Proofs.Ytblgpnijiefopaa.Shape

namespace Go.Proofs.Ytblgpnijiefopaa.Shape
open Go.RowKit
set_option linter.unusedVariables false

theorem maxL_self : ∀ (a : List Int), maxL a a = a
  | [] => rfl
  | x :: r => by have := maxL_self r; unfold maxL at *; rw [List.zipWith_cons_cons, this, Int.max_self]
theorem maxL_zero : ∀ (a : List Int), NN a → maxL (List.replicate a.length 0) a = a
  | [], _ => rfl
  | x :: r, h => by
    have := maxL_zero r (fun y hy => h y (by simp [hy]))
    have hx : 0 ≤ x := h x (by simp)
    unfold maxL at *
    rw [List.length_cons, List.replicate_succ, List.zipWith_cons_cons, this, Int.max_eq_right hx]
theorem commonG_same {cm : List Int} : ∀ (l : List Arr), (∀ A ∈ l, A.shape = cm) → commonG cm.length l cm = cm
  | [], _ => rfl
  | A :: r, h => by
    rw [commonG, h A (by simp), leadS_full (Nat.le_refl _), maxL_self]
    exact commonG_same r (fun B hB => h B (by simp [hB]))
theorem maxRank_same {n : Nat} : ∀ (l : List Arr), l ≠ [] → (∀ A ∈ l, A.shape.length = n) → maxRank l = n
  | [], h, _ => absurd rfl h
  | A :: r, _, h => by
    have hA := h A (by simp)
    have hr := maxRank_bd (l := r) (m := n) (fun B hB => by have := h B (by simp [hB]); omega)
    rw [maxRank]; omega
theorem commonS_same {l : List Arr} {cm : List Int} (hne : l ≠ []) (hn : NN cm) (h : ∀ A ∈ l, A.shape = cm) : commonS l = cm := by
  have hm := maxRank_same l hne (n := cm.length) (fun A hA => by rw [h A hA])
  rw [commonS, hm]
  cases l with
  | nil => exact absurd rfl hne
  | cons A r =>
    rw [commonG, h A (by simp), leadS_full (Nat.le_refl _), maxL_zero _ hn]
    exact commonG_same r (fun B hB => h B (by simp [hB]))

theorem asm_cells {A : Arr} (hx : rightE A = 0) (r : Nat) : asmA A.kind (A.shape.take r ++ A.shape.drop r) (A.shape.drop r) ((List.range (prN (A.shape.take r))).map (cellA A r)) = A := by
  obtain ⟨h1, h2, h3, h4, h5, h6⟩ := right_lens hx
  have hNN := (right_def.1 (right_short hx)).2.1
  have hT : NN (A.shape.take r) := fun y hy => hNN y (List.mem_of_mem_take hy)
  have hD : NN (A.shape.drop r) := fun y hy => hNN y (List.mem_of_mem_drop hy)
  have hp : prN A.shape = prN (A.shape.take r) * prN (A.shape.drop r) := by rw [← prN_append hT hD, List.take_append_drop]
  rw [hp] at h3 h4
  have key : ∀ {α : Type} (z : α) (els : List α), els.length = prN (A.shape.take r) * prN (A.shape.drop r) →
      ((List.range (prN (A.shape.take r))).map fun i => padS z (A.shape.drop r) (leadS (A.shape.drop r) (A.shape.drop r).length) (blk els i (prN (A.shape.drop r)))).flatten = els := by
    intro α z els hl
    rw [flatten_congr _ _ (fun i => blk els i (prN (A.shape.drop r))) (fun i hi => ?_), blks_take, ← hl, List.take_length]
    rw [leadS_full (Nat.le_refl _), padS_self _ _ _ hD]
    exact blk_len (by rw [hl]; exact Nat.mul_le_mul_right _ hi)
  obtain ⟨k, sh, nu, it⟩ := A
  simp only [Arr.kind, Arr.shape, Arr.nums, Arr.items] at *
  rw [asmA, List.take_append_drop, List.map_map, List.map_map]
  by_cases hk : k = 3
  · obtain ⟨g1, g2⟩ := h4 hk
    subst g2
    simp only [if_pos hk]
    have := key fillI it g1
    exact congrArg (Arr.mk k sh []) this
  · obtain ⟨g1, g2⟩ := h3 hk
    subst g2
    simp only [if_neg hk]
    have := key (fillZ k) nu g1
    exact congrArg (fun n => Arr.mk k sh n []) this
end Go.Proofs.Ytblgpnijiefopaa.Shape

namespace Go.Proofs.Ytblgpnijiefopaa.Shape
open Go.RowKit
set_option linter.unusedVariables false

theorem chkL_all : ∀ (l : List Arr) (d e : Int), chkL d l = some e → d ≤ e ∧ ∀ A ∈ l, (chk A).1 = 0 ∧ (chk A).2 + 1 ≤ e
  | [], d, e, h => by rw [chkL] at h; cases h; exact ⟨Int.le_refl _, fun A hA => by cases hA⟩
  | B :: r, d, e, h => by
    rw [chkL] at h
    split at h
    · cases h
    · rename_i h0
      obtain ⟨g1, g2⟩ := chkL_all r _ e h
      refine ⟨by omega, fun A hA => ?_⟩
      rcases List.mem_cons.1 hA with rfl | hA
      · exact ⟨by omega, by omega⟩
      · exact g2 A hA
theorem chkL_of (m : Int) : ∀ (l : List Arr) (d : Int), d ≤ m → (∀ A ∈ l, (chk A).1 = 0 ∧ (chk A).2 + 1 ≤ m) → ∃ e, chkL d l = some e ∧ e ≤ m
  | [], d, h, _ => ⟨d, by rw [chkL], h⟩
  | B :: r, d, h, g => by
    have hB := g B (by simp)
    obtain ⟨e, h1, h2⟩ := chkL_of m r (max d ((chk B).2 + 1)) (by omega) (fun A hA => g A (by simp [hA]))
    exact ⟨e, by rw [chkL, if_neg (by omega)]; exact h1, h2⟩
theorem sumW_app : ∀ (a b : List Arr), sumW (a ++ b) = sumW a + sumW b
  | [], b => by rw [List.nil_append, sumW]; omega
  | A :: r, b => by rw [List.cons_append, sumW, sumW, sumW_app r b]; omega
theorem sumW_nn2 : ∀ (a : List Arr), 0 ≤ sumW a
  | [] => by rw [sumW]; omega
  | A :: r => by rw [sumW]; have := wt_nn A; have := sumW_nn2 r; omega
theorem sumW_blk (l : List Arr) (i m : Nat) : sumW (blk l i m) ≤ sumW l := by
  have h1 : sumW l = sumW (l.take (i * m)) + sumW (l.drop (i * m)) := by rw [← sumW_app, List.take_append_drop]
  have h2 : sumW (l.drop (i * m)) = sumW ((l.drop (i * m)).take m) + sumW ((l.drop (i * m)).drop m) := by rw [← sumW_app, List.take_append_drop]
  have := sumW_nn2 (l.take (i * m))
  have := sumW_nn2 ((l.drop (i * m)).drop m)
  rw [blk]; omega

theorem aSize_num {k : Int} {sh nu : List Int} {it : List Arr} (h3 : k ≠ 3) (h5 : 1 ≤ k) (h6 : k ≤ 3) : aSize (.mk k sh nu it) = nu.length := by
  have h : k = 1 ∨ k = 2 := by omega
  unfold aSize
  exact if_pos h
theorem aSize_box {sh nu : List Int} {it : List Arr} : aSize (.mk 3 sh nu it) = it.length := rfl
theorem blk_le {α : Type} (l : List α) (i m : Nat) : (blk l i m).length ≤ l.length := by unfold blk; simp; omega
theorem right_cell {A : Arr} (hx : rightE A = 0) (r i : Nat) (hi : i < prN (A.shape.take r)) : rightE (cellA A r i) = 0 := by
  have hlens := right_lens hx
  have hw := right_wt hx
  have hr := right_short hx
  have hNN := (right_def.1 hr).2.1
  have hT : NN (A.shape.take r) := fun y hy => hNN y (List.mem_of_mem_take hy)
  have hD : NN (A.shape.drop r) := fun y hy => hNN y (List.mem_of_mem_drop hy)
  have hp : prN A.shape = prN (A.shape.take r) * prN (A.shape.drop r) := by rw [← prN_append hT hD, List.take_append_drop]
  have hrd := right_drop (k := r) hr
  have hpd : (prN (A.shape.drop r) : Int) = pr (A.shape.drop r) := by
    have := pr_nn hD
    unfold prN; omega
  obtain ⟨k, sh, nu, it⟩ := A
  rw [rightE, chk] at hx
  simp only [Arr.kind, Arr.shape, Arr.nums, Arr.items, cellA] at *
  obtain ⟨h1, h2, h3, h4, h5, h6⟩ := hlens
  rw [hp] at h3 h4
  have hle : (i + 1) * prN (sh.drop r) ≤ prN (sh.take r) * prN (sh.drop r) := Nat.mul_le_mul_right _ hi
  split at hx
  · simp at hx
  · rename_i hk
    split at hx
    · rename_i h; exact absurd hx h
    · split at hx
      · simp at hx
      · split at hx
        · simp at hx
        · rename_i hel
          split at hx
          · simp at hx
          · rename_i d hd
            unfold lastE at hx
            split at hx
            · simp at hx
            · rename_i hlast
              obtain ⟨g1, g2⟩ := chkL_all it 0 d hd
              obtain ⟨e, he, hed⟩ := chkL_of d (blk it i (prN (sh.drop r))) 0 g1 (fun A hA => g2 A (blk_mem hA))
              rw [rightE, chk, if_neg hk, if_neg (by simpa using (dimsE_right _).2 hrd)]
              have hel' : (blk nu i (prN (sh.drop r))).all (elemB k) = true := List.all_eq_true.2 fun x hx => by
                have h' : nu.all (elemB k) = true := by simpa using hel
                exact List.all_eq_true.1 h' x (blk_mem hx)
              have hlen : ¬ ((aSize (.mk k (sh.drop r) (blk nu i (prN (sh.drop r))) (blk it i (prN (sh.drop r)))) : Int) ≠ pr (sh.drop r) ∨ 0 < other k (blk nu i (prN (sh.drop r))) (blk it i (prN (sh.drop r)))) := by
                by_cases hk3 : k = 3
                · subst hk3
                  obtain ⟨q1, q2⟩ := h4 rfl
                  subst q2
                  rw [aSize_box, blk_len (by rw [q1]; exact hle), hpd, other, if_pos rfl]
                  simp [blk]
                · obtain ⟨q1, q2⟩ := h3 hk3
                  subst q2
                  rw [aSize_num hk3 h5 h6, blk_len (by rw [q1]; exact hle), hpd, other, if_neg hk3]
                  simp [blk]
              rw [if_neg hlen, if_neg (by rw [hel']; simp), he]
              show (lastE e _).1 = 0
              unfold lastE
              rw [if_neg]
              intro hor
              rcases hor with hor | hor
              · omega
              · apply hlast
                right
                rw [wt] at hor ⊢
                have hs := sumW_blk it i (prN (sh.drop r))
                have ha : aSize (.mk k (sh.drop r) (blk nu i (prN (sh.drop r))) (blk it i (prN (sh.drop r)))) ≤ aSize (.mk k sh nu it) := by
                  by_cases hk3 : k = 3
                  · subst hk3; rw [aSize_box, aSize_box]; exact blk_le _ _ _
                  · rw [aSize_num hk3 h5 h6, aSize_num hk3 h5 h6]; exact blk_le _ _ _
                by_cases hk3 : k = 3
                · rw [if_pos hk3] at hor ⊢; omega
                · rw [if_neg hk3] at hor ⊢; omega
end Go.Proofs.Ytblgpnijiefopaa.Shape

namespace Go.Proofs.Ytblgpnijiefopaa.Shape
open Go.RowKit
set_option linter.unusedVariables false

theorem maxL_at {a b : List Int} {i : Nat} {y : Int} (h : (maxL a b)[i]? = some y) : ∃ x z, a[i]? = some x ∧ b[i]? = some z ∧ x ≤ y ∧ z ≤ y := by
  unfold maxL at h
  rw [List.getElem?_zipWith] at h
  cases ha : a[i]? with
  | none => simp [ha] at h
  | some x =>
    cases hb : b[i]? with
    | none => simp [ha, hb] at h
    | some z =>
      simp only [ha, hb, Option.some.injEq] at h
      exact ⟨x, z, rfl, rfl, by omega, by omega⟩
theorem commonG_ge (n : Nat) : ∀ (l : List Arr) (acc : List Int) (i : Nat) (y : Int), (commonG n l acc)[i]? = some y → (∃ x, acc[i]? = some x ∧ x ≤ y) ∧ ∀ A ∈ l, ∃ z, (leadS A.shape n)[i]? = some z ∧ z ≤ y
  | [], acc, i, y, h => ⟨⟨y, h, Int.le_refl _⟩, fun A hA => by cases hA⟩
  | B :: r, acc, i, y, h => by
    rw [commonG] at h
    obtain ⟨⟨m, hm, hmy⟩, h2⟩ := commonG_ge n r _ i y h
    obtain ⟨x, z, hx, hz, h3, h4⟩ := maxL_at hm
    refine ⟨⟨x, hx, by omega⟩, fun A hA => ?_⟩
    rcases List.mem_cons.1 hA with rfl | hA
    · exact ⟨z, hz, by omega⟩
    · exact h2 A hA
theorem commonS_len (l : List Arr) : (commonS l).length = maxRank l := commonG_len _ _ _ (fun A hA => maxRank_le hA) (by simp)
theorem common_fits {l : List Arr} {A : Arr} (hA : A ∈ l) : fits (commonS l) (leadS A.shape (commonS l).length) := by
  rw [commonS_len]
  refine fits_of (maxRank l) _ _ (commonS_len l) (leadS_len (maxRank_le hA)) fun i x y hx hy => ?_
  obtain ⟨z, hz, hzy⟩ := (commonG_ge _ _ _ i y hy).2 A hA
  rw [hx] at hz
  cases hz
  exact hzy
/-- What Join gives. -/
def joinA (fr : List Int) (l : List Arr) (B : Arr) : Arr × Int :=
  if sizeS fr = l.length then
    if l.length = 0 then joinNoneS fr B
    else if l.all (fun A => decide (rightE A = 0)) = true then
      if l.all (fun A => decide (A.kind = (l.headD zeroA).kind)) = true then asmS (l.headD zeroA).kind fr (commonS l) l else (zeroA, 14)
    else (zeroA, 1)
  else (zeroA, 1)
theorem okay_join {l : List Arr} {k : Int} (hr : ∀ A ∈ l, rightE A = 0) (hk : ∀ A ∈ l, A.kind = k) : ∀ A ∈ l, Okay k (commonS l) A := by
  intro A hA
  have h := right_lens (hr A hA)
  rw [hk A hA] at h
  exact ⟨hk A hA, (right_def.1 (right_short (hr A hA))).2.1, by rw [commonS_len]; exact maxRank_le hA, fun _ => common_fits hA, h.2.2.1, h.2.2.2.1⟩

set_option maxRecDepth 100000 in
set_option maxHeartbeats 2000000 in
theorem joinQ (fa : Option Addr) (fc : Nat) (fr : List Int) (a : Option Addr) (c : Nat) (l : List Arr) (v : Value) (B : Arr) (w : World) (b off : Nat) (hf : IntsAt w fa fc fr) (hlc : l.length ≤ c) (hc : c ≤ 9223372036854775807) (ha : l ≠ [] → a = some ⟨b, off, none⟩) (h : ArrsAt w b off l) (hR : ∀ A ∈ l, Reach A) (hB : ArrAt w v B) :
    Calls Try.prog 26 #[.slice fa fr.length fc, .slice a l.length c, v] w (GiveNewE (joinA fr l B).1 (joinA fr l B).2 w) := by
  have hB0 := hB
  obtain ⟨kl, sl, ll, cl, nl, ml, dl, il, jl, el, rfl⟩ : ∃ kk sa ls sc na ln nc ia li ic, v = .agg #[.int .i64 kk, .slice sa ls sc, .slice na ln nc, .slice ia li ic] := by
    obtain ⟨kk, sh, nu, it⟩ := B
    rw [ArrAt] at hB
    obtain ⟨sa, sc, na, nc, ia, ic, hv, -⟩ := hB
    exact ⟨_, _, _, _, _, _, _, _, _, _, hv⟩
  have bw := below_two w (.cells #[.int .i64 kl, .slice sl ll cl, .slice nl ml dl, .slice il jl el] 26) (.cells #[.int .i64 0, .slice none 0 0, .slice none 0 0, .slice none 0 0] 26)
  have q5 := (Quad.new w (.int .i64 kl) (.slice sl ll cl) (.slice nl ml dl) (.slice il jl el)).below (below_new _ (.cells #[.int .i64 0, .slice none 0 0, .slice none 0 0, .slice none 0 0] 26))
  have q6 : Quad ((w.alloc (.cells #[.int .i64 kl, .slice sl ll cl, .slice nl ml dl, .slice il jl el] 26)).alloc (.cells #[.int .i64 0, .slice none 0 0, .slice none 0 0, .slice none 0 0] 26)) (w.heap.size + 1) (.int .i64 0) (.slice none 0 0) (.slice none 0 0) (.slice none 0 0) := by simpa using Quad.new (w.alloc (.cells #[.int .i64 kl, .slice sl ll cl, .slice nl ml dl, .slice il jl el] 26)) (.int .i64 0) (.slice none 0 0) (.slice none 0 0) (.slice none 0 0)
  have hf1 := hf.below bw
  have hB1 := hB0.below bw
  have hl := hf.len
  generalize hW0 : (w.alloc (.cells #[.int .i64 kl, .slice sl ll cl, .slice nl ml dl, .slice il jl el] 26)).alloc (.cells #[.int .i64 0, .slice none 0 0, .slice none 0 0, .slice none 0 0] 26) = W0 at *
  obtain ⟨s0, s1, s2, s3, s4, s5, s6, s7⟩ := q6.cells
  obtain ⟨u0, u1, u2, u3, -⟩ := q5.cells
  obtain ⟨sz, hsz⟩ : ∃ s, sizeS fr = s := ⟨_, rfl⟩
  have S := fun W (g : IntsAt W fa fc fr) => shSizeP fa fc fr W g
  rw [hsz] at S
  by_cases hs : sz = (l.length : Int)
  · have hrf : rightB fr = true := Classical.byContradiction fun g => by
      rw [sizeS, if_neg g] at hsz
      omega
    have hpf : prN fr = l.length := by
      rw [sizeS, if_pos hrf] at hsz
      unfold prN; omega
    have hl6 : l.length ≤ 65536 := by
      have := (part_bd (a := fr) (b := []) (by rw [List.append_nil]; exact hrf)).2.1
      rw [← hpf]; unfold prN; omega
    have hf8 := (right_def.1 hrf).1
    have e1 : (sz != (l.length : Int)) = false := by simpa using hs
    by_cases hn : l.length = 0
    · have HP : joinA fr l B = joinNoneS fr B := by rw [joinA, if_pos (by rw [hsz]; exact hs), if_pos hn]
      have N := fun W (g : IntsAt W fa fc fr) (g2 : ArrAt W (.agg #[.int .i64 kl, .slice sl ll cl, .slice nl ml dl, .slice il jl el]) B) => joinNoneQ fa fc fr (.agg #[.int .i64 kl, .slice sl ll cl, .slice nl ml dl, .slice il jl el]) B W g (by omega) g2
      obtain ⟨PA, er, hPA⟩ : ∃ PA er, joinNoneS fr B = (PA, er) := ⟨_, _, rfl⟩
      rw [hPA] at N
      have HPA : Hid (joinA fr l B = (PA, er)) := HP.trans hPA
      have e2 : ((l.length : Int) == 0) = true := by simp [hn]
      have N1 := N W0 hf1 hB1
      clear HP hPA N hs hsz hrf hpf
      generalize l.length = L at *
      go_enter Try.func26, Try.ntmps26
      go_wp2_with (first
        | (go_at_call 59; refine (S _ hf1).mono ?_; rintro e w1 ⟨rfl, rfl⟩)
        | (go_at_call 60; refine N1.mono ?_; intro e w5 hN; (obtain ⟨kr, sar, lsr, scr, nar, lnr, ncr, iar, lir, icr, rfl, hO, hb5⟩ := GiveNewE.formOn hN); (obtain ⟨y0, y1, y2, y3, y4, y5, y6, y7⟩ := (q6.below hb5).cells)))
      have q6x := q6
      have hlq := q6x.lt
      have G := give_set4 (w := w) (Nat.le_succ w.heap.size) (q6.below hb5) (hO.mono fun g hg => by have hg' := hg; omega) (Below.then bw hb5)
      obtain ⟨QW, -⟩ := set4 (q6.below hb5) (.int .i64 kr) (.slice sar lsr scr) (.slice nar lnr ncr) (.slice iar lir icr)
      generalize ((((w5.setCell ⟨w.heap.size + 1, 0, none⟩ (.int .i64 kr)).setCell ⟨w.heap.size + 1, 1, none⟩ (.slice sar lsr scr)).setCell ⟨w.heap.size + 1, 2, none⟩ (.slice nar lnr ncr)).setCell ⟨w.heap.size + 1, 3, none⟩ (.slice iar lir icr)) = WW at QW G ⊢
      obtain ⟨z0, z1, z2, z3, -⟩ := QW.cells
      exact bodyPost_ret (v := .tuple #[.agg #[.int .i64 kr, .slice sar lsr scr, .slice nar lnr ncr, .slice iar lir icr], .int .i64 er]) (by simp [results, Try.results26, go_sem, z0, z1, z2, z3]) rfl (by rw [HPA.out]; exact GiveNewE.mk G)
    · have hne : l ≠ [] := fun e => hn (by rw [e]; rfl)
      have ha' := ha hne
      subst ha'
      have hl0 : 0 < l.length := by omega
      have hhd : l.headD zeroA = l[0] := by cases l with
        | nil => exact absurd rfl hne
        | cons A r => rfl
      obtain ⟨k0, hk0⟩ : ∃ k, l[0].kind = k := ⟨_, rfl⟩
      have e2 : ((l.length : Int) == 0) = false := by simpa using hn
      have HPR : Hid (∀ j (hj : j < l.length), rightE l[j] ≠ 0 → joinA fr l B = (zeroA, 1)) := fun j hj hx => by
        rw [joinA, if_pos (by rw [hsz]; exact hs), if_neg hn, if_neg]
        intro hall
        exact hx (by simpa using List.all_eq_true.1 hall _ (List.getElem_mem hj))
      have HPK : Hid ((∀ A ∈ l, rightE A = 0) → ∀ j (hj : j < l.length), l[j].kind ≠ k0 → joinA fr l B = (zeroA, 14)) := fun hr j hj hx => by
        rw [joinA, if_pos (by rw [hsz]; exact hs), if_neg hn, if_pos (List.all_eq_true.2 fun A hA => by simpa using hr A hA), if_neg]
        intro hall
        have := List.all_eq_true.1 hall _ (List.getElem_mem hj)
        rw [hhd, hk0] at this
        exact hx (by simpa using this)
      have HPO : Hid ((∀ A ∈ l, rightE A = 0) → (∀ A ∈ l, A.kind = k0) → joinA fr l B = asmS k0 fr (commonS l) l) := fun hr hk => by
        rw [joinA, if_pos (by rw [hsz]; exact hs), if_neg hn, if_pos (List.all_eq_true.2 fun A hA => by simpa using hr A hA), if_pos (List.all_eq_true.2 fun A hA => by rw [hhd, hk0]; simpa using hk A hA), hhd, hk0]
      obtain ⟨kz, saz, scz, naz, lnz, ncz, iaz, liz, icz, ⟨tz, -, -, -⟩, -, -, hkz⟩ := h.shape hl0
      obtain rfl : k0 = kz := by rw [← hk0]; exact hkz
      rw [Nat.zero_mul, Nat.add_zero] at tz
      have hix0 : ∀ W : World, (Instr.indexAt 24 (.slice (some ⟨b, off, none⟩) l.length c) (.int .i64 0)).run Try.prog W = .ok (.pointer (some ⟨b, off, none⟩)) W := by
        intro W
        have := items_at (ia := some ⟨b, off, none⟩) (b := b) (off := off) (l := l) (ic := c) rfl (fun _ => rfl) hl0 W
        rw [Nat.zero_mul, Nat.add_zero] at this
        exact this
      clear hs hsz hhd hk0 hkz u0 u1 u2 u3 hB0 hB1
      have q60 := q6
      clear q6
      go_enter Try.func26, Try.ntmps26
      go_wp2_with (go_at_call 59; refine (S _ hf1).mono ?_; rintro e w1 ⟨rfl, rfl⟩)
      clear s0 s1 s2 s3 s4 s5 s6 s7
      go_loopw [28] (fun i wr => ∃ j : Nat, j ≤ l.length ∧ i = .int .i64 j ∧ (∀ i' (hi : i' < l.length), i' < j → rightE l[i'] = 0) ∧ Below W0.heap.size W0 wr) (fun i _ => l.length - (intOf i).toNat)
      case atStart => exact ⟨0, Nat.zero_le _, rfl, fun i' _ h => absurd h (Nat.not_lt_zero _), Below.refl _ _⟩
      case round =>
        obtain ⟨j, hj, rfl, hall, hb⟩ := hrel
        have hbw := Below.then bw hb
        by_cases hlt : j < l.length
        · obtain ⟨kj, saj, scj, naj, lnj, ncj, iaj, lij, icj, ⟨t0, t1, t2, t3⟩, -, hAj, -⟩ := h.shape hlt
          have y0 := (hbw.cell (cell_lt t0)).trans t0
          have y1 := (hbw.cell (cell_lt t1)).trans t1
          have y2 := (hbw.cell (cell_lt t2)).trans t2
          have y3 := (hbw.cell (cell_lt t3)).trans t3
          have hixj := items_at (ia := some ⟨b, off, none⟩) (b := b) (off := off) (l := l) (ic := c) rfl (fun _ => rfl) hlt
          have bq := below_new wr (.cells #[.int .i64 kj, .slice saj l[j].shape.length scj, .slice naj lnj ncj, .slice iaj lij icj] 26)
          obtain ⟨r0, r1, r2, r3, -⟩ := (Quad.new wr (.int .i64 kj) (.slice saj l[j].shape.length scj) (.slice naj lnj ncj) (.slice iaj lij icj)).cells
          obtain ⟨x, hx⟩ : ∃ x, rightE l[j] = x := ⟨_, rfl⟩
          have R := fun v' w' (g : ArrAt w' v' l[j]) => rightQ v' l[j] w' g
          rw [hx] at R
          have HX := HPR.out j hlt
          rw [hx] at HX
          have hbq := Below.then hb bq
          have hAq := hAj.below (Below.then hbw bq)
          have RQ := R _ _ hAq
          clear t0 t1 t2 t3 hAj R hAq
          generalize l[j].shape.length = lsj at *
          by_cases hx0 : x = 0
          · have e5 : (x != 0) = false := by simpa using hx0
            go_wp2_with (go_at_call 44; refine RQ.mono ?_; rintro e w2 ⟨rfl, hb2⟩)
            refine ⟨⟨j + 1, by omega, by go_num, fun i' hi h => ?_, Below.then hbq hb2⟩, ?_⟩
            · rcases Nat.lt_succ_iff_lt_or_eq.1 h with h | h
              · exact hall i' hi h
              · subst h; rw [hx]; exact hx0
            · simp [intOf]; omega
          · have e5 : (x != 0) = true := by simpa using hx0
            have HP : Hid (joinA fr l B = (zeroA, 1)) := HX hx0
            have q6q := (q60.below hb).below bq
            clear HX HPR HPK HPO hall
            go_wp2_with (go_at_call 44; refine RQ.mono ?_; rintro e w2 ⟨rfl, hb2⟩; (obtain ⟨s0, s1, s2, s3, s4, s5, s6, s7⟩ := (q6q.below hb2).cells))
            have G := give_set4 (w := w) (Nat.le_succ w.heap.size) (q6q.below hb2) (zero_on _ _) (Below.then bw (Below.then hbq hb2))
            obtain ⟨QW, -⟩ := set4 (q6q.below hb2) (.int .i64 0) (.slice none 0 0) (.slice none 0 0) (.slice none 0 0)
            generalize ((((w2.setCell ⟨w.heap.size + 1, 0, none⟩ (.int .i64 0)).setCell ⟨w.heap.size + 1, 1, none⟩ (.slice none 0 0)).setCell ⟨w.heap.size + 1, 2, none⟩ (.slice none 0 0)).setCell ⟨w.heap.size + 1, 3, none⟩ (.slice none 0 0)) = WW at QW G ⊢
            obtain ⟨z0, z1, z2, z3, -⟩ := QW.cells
            exact bodyPost_ret (v := .tuple #[.agg #[.int .i64 0, .slice none 0 0, .slice none 0 0, .slice none 0 0], .int .i64 1]) (by simp [results, Try.results26, go_sem, z0, z1, z2, z3]) rfl (by rw [HP.out]; exact GiveNewE.mk G)
        · obtain rfl : j = l.length := by omega
          have hright : ∀ A ∈ l, rightE A = 0 := fun A hA => by
            obtain ⟨i', hi, rfl⟩ := List.getElem_of_mem hA
            exact hall i' hi hi
          have hk12 := (right_lens (hright _ (List.getElem_mem hl0))).2.2.2.2
          have HR : Hid (∀ A ∈ l, rightE A = 0) := hright
          clear hall hright HPR
          have hb0 := hb
          have hbw0 := hbw
          go_wp2_with fail
          clear hb hbw
          go_loopw [39] (fun i wr => ∃ j : Nat, j ≤ l.length ∧ i = .int .i64 j ∧ (∀ i' (hi : i' < l.length), i' < j → l[i'].kind = k0) ∧ Below W0.heap.size W0 wr) (fun i _ => l.length - (intOf i).toNat)
          case atStart => exact ⟨0, Nat.zero_le _, rfl, fun i' _ h => absurd h (Nat.not_lt_zero _), hb0⟩
          case round =>
            clear hb0 hbw0
            obtain ⟨j, hj, rfl, hall, hb⟩ := hrel
            have hbw := Below.then bw hb
            by_cases hlt : j < l.length
            · obtain ⟨kj, saj, scj, naj, lnj, ncj, iaj, lij, icj, ⟨t0, t1, t2, t3⟩, -, hAj, hkj⟩ := h.shape hlt
              have y0 := (hbw.cell (cell_lt t0)).trans t0
              have y1 := (hbw.cell (cell_lt t1)).trans t1
              have y2 := (hbw.cell (cell_lt t2)).trans t2
              have y3 := (hbw.cell (cell_lt t3)).trans t3
              have hixj := items_at (ia := some ⟨b, off, none⟩) (b := b) (off := off) (l := l) (ic := c) rfl (fun _ => rfl) hlt
              have bq := below_new wr (.cells #[.int .i64 kj, .slice saj l[j].shape.length scj, .slice naj lnj ncj, .slice iaj lij icj] 26)
              have qj := Quad.new wr (.int .i64 kj) (.slice saj l[j].shape.length scj) (.slice naj lnj ncj) (.slice iaj lij icj)
              obtain ⟨r0, r1, r2, r3, -⟩ := qj.cells
              have hbq := Below.then hb bq
              have z0 := ((Below.then hbw bq).cell (cell_lt tz)).trans tz
              have q6q := (q60.below hb).below bq
              have HK := HPK.out HR.out j hlt
              rw [hkj] at HK
              have HKJ : Hid (l[j].kind = kj) := hkj
              clear t0 t1 t2 t3 hAj hkj
              generalize l[j].shape.length = lsj at *
              obtain ⟨qb, hqb⟩ : ∃ qb, wr.heap.size = qb := ⟨_, rfl⟩
              rw [hqb] at r0 r1 r2 r3
              obtain ⟨Wq, hWq⟩ : ∃ Wq, wr.alloc (.cells #[.int .i64 kj, .slice saj lsj scj, .slice naj lnj ncj, .slice iaj lij icj] 26) = Wq := ⟨_, rfl⟩
              rw [hWq] at r0 r1 r2 r3 z0 bq hbq q6q
              by_cases hkk : kj = k0
              · subst hkk
                clear HK
                go_wp2_with fail
                go_region_held3 (fun W => W.cell? ⟨qb, 0, none⟩ = some (.int .i64 kj) ∧ W.cell? ⟨b, off, none⟩ = some (.int .i64 kj))
                  (first | exact ⟨r0, z0⟩ | assumption)
                  (fail)
                all_goals go_wp2_with fail
                refine ⟨⟨j + 1, by omega, by go_num, fun i' hi h => ?_, hbq.drew⟩, ?_⟩
                · rcases Nat.lt_succ_iff_lt_or_eq.1 h with h | h
                  · exact hall i' hi h
                  · subst h; exact HKJ.out
                · simp [intOf]; omega
              · have e7 : (kj != k0) = true := by simpa using hkk
                have HP : Hid (joinA fr l B = (zeroA, 14)) := HK hkk
                clear HK HPK HPO hall
                obtain ⟨s0, s1, s2, s3, s4, s5, s6, s7⟩ := q6q.cells
                go_wp2_with fail
                go_region_held3 (fun W => W.cell? ⟨qb, 0, none⟩ = some (.int .i64 kj) ∧ W.cell? ⟨b, off, none⟩ = some (.int .i64 k0))
                  (first | exact ⟨r0, z0⟩ | assumption)
                  (fail)
                all_goals go_wp2_with fail
                have G0 := give_set4 (w := w) (Nat.le_succ w.heap.size) (q6q.drewC) (zero_on _ _) (Below.then bw hbq.drew)
                have G : GiveNew zeroA w (.returned (.agg #[.int .i64 0, .slice none 0 0, .slice none 0 0, .slice none 0 0])) (World.drew ((((Wq.setCell ⟨w.heap.size + 1, 0, none⟩ (.int .i64 0)).setCell ⟨w.heap.size + 1, 1, none⟩ (.slice none 0 0)).setCell ⟨w.heap.size + 1, 2, none⟩ (.slice none 0 0)).setCell ⟨w.heap.size + 1, 3, none⟩ (.slice none 0 0))) := G0
                obtain ⟨QW, -⟩ := set4 (q6q) (.int .i64 0) (.slice none 0 0) (.slice none 0 0) (.slice none 0 0)
                generalize ((((Wq.setCell ⟨w.heap.size + 1, 0, none⟩ (.int .i64 0)).setCell ⟨w.heap.size + 1, 1, none⟩ (.slice none 0 0)).setCell ⟨w.heap.size + 1, 2, none⟩ (.slice none 0 0)).setCell ⟨w.heap.size + 1, 3, none⟩ (.slice none 0 0)) = WW at QW G ⊢
                obtain ⟨z0, z1, z2, z3, -⟩ := QW.cells
                exact bodyPost_ret (v := .tuple #[.agg #[.int .i64 0, .slice none 0 0, .slice none 0 0, .slice none 0 0], .int .i64 14]) (by simp [results, Try.results26, go_sem, z0, z1, z2, z3]) rfl (by rw [HP.out]; exact GiveNewE.mk G)
            · obtain rfl : j = l.length := by omega
              have hkinds : ∀ A ∈ l, A.kind = k0 := fun A hA => by
                obtain ⟨i', hi, rfl⟩ := List.getElem_of_mem hA
                exact hall i' hi hi
              have hHP := HPO.out HR.out hkinds
              have hok := okay_join HR.out hkinds
              have hk13 : 1 ≤ k0 ∧ k0 ≤ 3 := by
                have := hkinds _ (List.getElem_mem hl0)
                rw [this] at hk12
                exact hk12
              obtain ⟨PA, er, hPA⟩ : ∃ PA er, asmS k0 fr (commonS l) l = (PA, er) := ⟨_, _, rfl⟩
              have HPA : Hid (joinA fr l B = (PA, er)) := hHP.trans hPA
              have h8 : ∀ A ∈ l, A.shape.length ≤ 1000 := fun A hA => by
                have := (right_def.1 (right_short (HR.out A hA))).1
                omega
              have hcl : (commonS l).length ≤ 1000 := by rw [commonS_len]; exact maxRank_bd h8
              have C1 := commonQ (some ⟨b, off, none⟩) c l wr b off hlc hc (fun _ => rfl) (ArrsAt.below hbw h) h8
              have HC := fun W a' c' (hB' : Below w.heap.size w W) (g : IntsAt W a' c' (commonS l)) => asmX fa fc fr a' c' (commonS l) (some ⟨b, off, none⟩) c l k0 W b off (hf.below hB') g ⟨by omega, hcl⟩ hlc hc hne hl6 (fun _ => hpf) rfl (ArrsAt.below hB' h) hk13 hok hR
              rw [hPA] at HC
              have q6j := q60.below hb
              clear hkinds hok hHP hPA HPK HPO HR hall h8 hk12 hk13 hcl hpf q60
              generalize commonS l = cs at *
              go_wp2_with (first
                | (go_at_call 61; refine C1.mono ?_; rintro e w3 ⟨a', c', rfl, hI, hb3⟩; (have HA := HC w3 a' c' (Below.then hbw hb3) hI.1))
                | (go_at_call 53; refine HA.mono ?_; intro e w5 hN; (obtain ⟨kr, sar, lsr, scr, nar, lnr, ncr, iar, lir, icr, rfl, hO, hb5⟩ := GiveNewE.formOn hN); (obtain ⟨y0, y1, y2, y3, y4, y5, y6, y7⟩ := ((q6j.below hb3).below hb5).cells)))
              have q6x := q6j.below hb3
              have hlq := q6x.lt
              have G := give_set4 (w := w) (Nat.le_succ w.heap.size) (q6x.below hb5) (hO.mono fun g hg => by have hg' := hg; omega) (Below.then (Below.then hbw hb3) hb5)
              obtain ⟨QW, -⟩ := set4 (q6x.below hb5) (.int .i64 kr) (.slice sar lsr scr) (.slice nar lnr ncr) (.slice iar lir icr)
              generalize ((((w5.setCell ⟨w.heap.size + 1, 0, none⟩ (.int .i64 kr)).setCell ⟨w.heap.size + 1, 1, none⟩ (.slice sar lsr scr)).setCell ⟨w.heap.size + 1, 2, none⟩ (.slice nar lnr ncr)).setCell ⟨w.heap.size + 1, 3, none⟩ (.slice iar lir icr)) = WW at QW G ⊢
              obtain ⟨z0, z1, z2, z3, -⟩ := QW.cells
              exact bodyPost_ret (v := .tuple #[.agg #[.int .i64 kr, .slice sar lsr scr, .slice nar lnr ncr, .slice iar lir icr], .int .i64 er]) (by simp [results, Try.results26, go_sem, z0, z1, z2, z3]) rfl (by rw [HPA.out]; exact GiveNewE.mk G)
  · have HP : Hid (joinA fr l B = (zeroA, 1)) := by unfold Hid; rw [joinA, if_neg (by rw [hsz]; exact hs)]
    have e1 : (sz != (l.length : Int)) = true := by simpa using hs
    clear hs
    go_enter Try.func26, Try.ntmps26
    go_wp2_with (go_at_call 59; refine (S _ hf1).mono ?_; rintro e w1 ⟨rfl, rfl⟩)
    have G := give_set4 (w := w) (Nat.le_succ w.heap.size) (q6) (zero_on _ _) (bw)
    obtain ⟨QW, -⟩ := set4 (q6) (.int .i64 0) (.slice none 0 0) (.slice none 0 0) (.slice none 0 0)
    generalize ((((W0.setCell ⟨w.heap.size + 1, 0, none⟩ (.int .i64 0)).setCell ⟨w.heap.size + 1, 1, none⟩ (.slice none 0 0)).setCell ⟨w.heap.size + 1, 2, none⟩ (.slice none 0 0)).setCell ⟨w.heap.size + 1, 3, none⟩ (.slice none 0 0)) = WW at QW G ⊢
    obtain ⟨z0, z1, z2, z3, -⟩ := QW.cells
    exact bodyPost_ret (v := .tuple #[.agg #[.int .i64 0, .slice none 0 0, .slice none 0 0, .slice none 0 0], .int .i64 1]) (by simp [results, Try.results26, go_sem, z0, z1, z2, z3]) rfl (by rw [HP.out]; exact GiveNewE.mk G)
end Go.Proofs.Ytblgpnijiefopaa.Shape
