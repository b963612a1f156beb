/-
  What a walk is told of a slice of ints that is only read: it holds the numbers xs.
  Arrays as plain data, and what it means that a value in memory holds one.
  Layer 3: the reference's Size and Weight.
  Layer 3: the reference's Weight.
  Layer 3: the reference's product, Dims, Count, Shapes, Rune and Number.
  Layer 3: what makes an array valid, as plain functions: the first error, and the depth of the boxes.
-/
import Derived.Test.YtekbdiniibmhgaaRows
import Derived.WalkKit
import Derived.WalkSpells
import Derived.WalkLawsBesides
import Derived.Deep.QuietTactic
import Derived.BigQuiet
import Derived.Test.YtekbdiniibmhgaaBinGM
namespace Go.Proofs.Ytekbdiniibmhgaa.Shape
open Go.RowKit

def IntsAt (w : World) (a : Option Addr) (cap : Nat) (xs : List Int) : Prop :=
  xs.length ≤ cap ∧ cap ≤ 9223372036854775807 ∧ (∀ x ∈ xs, -9223372036854775808 ≤ x ∧ x ≤ 9223372036854775807) ∧
    ∃ b off : Nat, (xs ≠ [] → a = some ⟨b, off, none⟩) ∧ ∀ i (h : i < xs.length), w.cell? ⟨b, off + i, none⟩ = some (.int .i64 xs[i])
theorem IntsAt.drewN {w : World} {a : Option Addr} {cap : Nat} {xs : List Int} (h : IntsAt w a cap xs) (n : Nat) : IntsAt (w.drewN n) a cap xs := h
theorem IntsAt.len {w : World} {a : Option Addr} {cap : Nat} {xs : List Int} (h : IntsAt w a cap xs) : xs.length ≤ 9223372036854775807 := Nat.le_trans h.1 h.2.1
theorem IntsAt.bd {w : World} {a : Option Addr} {cap : Nat} {xs : List Int} (h : IntsAt w a cap xs) {k : Nat} (hk : k < xs.length) : -9223372036854775808 ≤ xs[k] ∧ xs[k] ≤ 9223372036854775807 := h.2.2.1 _ (List.getElem_mem hk)
theorem elemInts : Try.prog.underlying 30 = some (.slice (Try.prog.elem 30)) := by kernel_rfl
theorem sizeInts (w : World) : (sizeOf (Try.prog.elem 30)).run Try.prog w = .ok 1 w := by kernel_rfl
theorem add_plain (b off k : Nat) : (⟨b, off, none⟩ : Addr).add k = ⟨b, off + k, none⟩ := by unfold Addr.add; split <;> simp_all
/-- Element k: where it lies, and what it is. -/
theorem IntsAt.at {w : World} {a : Option Addr} {cap : Nat} {xs : List Int} (h : IntsAt w a cap xs) {k : Nat} (hk : k < xs.length) :
    ∃ b off : Nat, (∀ w' : World, (Instr.indexAt 30 (.slice a xs.length cap) (.int .i64 k)).run Try.prog w' = .ok (.pointer (some ⟨b, off + k, none⟩)) w') ∧ w.cell? ⟨b, off + k, none⟩ = some (.int .i64 xs[k]) := by
  obtain ⟨h1, h2, h3, b, off, ha, hc⟩ := h
  have hne : xs ≠ [] := by intro e; subst e; simp at hk
  have e := ha hne
  subst e
  refine ⟨b, off, fun w' => ?_, hc k hk⟩
  rw [run_indexAt_slice w' _ _ _ _ .i64 k elemInts, if_pos (by omega), sizeInts]
  show Result.ok _ w' = _
  rw [show ((k : Int).toNat * 1) = k by omega, add_plain]
end Go.Proofs.Ytekbdiniibmhgaa.Shape

namespace Go.Proofs.Ytekbdiniibmhgaa.Shape
open Go.RowKit

inductive Arr where
  | mk (kind : Int) (shape nums : List Int) (items : List Arr)
namespace Arr
def kind : Arr → Int | mk k _ _ _ => k
def shape : Arr → List Int | mk _ s _ _ => s
def nums : Arr → List Int | mk _ _ n _ => n
def items : Arr → List Arr | mk _ _ _ i => i
end Arr

theorem cell_lt {w : World} {b o : Nat} {v : Value} (h : w.cell? ⟨b, o, none⟩ = some v) : b < w.heap.size := by
  rcases Nat.lt_or_ge b w.heap.size with h1 | h1
  · exact h1
  · have e : w.heap[b]? = none := by simp [h1]
    simp [World.cell?, e] at h
theorem IntsAt.below {w w' : World} {a : Option Addr} {cap : Nat} {xs : List Int} (h : IntsAt w a cap xs) (hb : Below w.heap.size w w') : IntsAt w' a cap xs := by
  obtain ⟨h1, h2, h3, b, off, ha, hc⟩ := h
  exact ⟨h1, h2, h3, b, off, ha, fun i hi => (hb.cell (cell_lt (hc i hi))).trans (hc i hi)⟩

mutual
/-- v is an array (four cells: kind, shape, numbers, items) that holds A in the world w. -/
def ArrAt (w : World) (v : Value) : Arr → Prop
  | .mk k sh nu it => ∃ sa sc na nc ia ic, v = .agg #[.int .i64 k, .slice sa (List.length sh) sc, .slice na (List.length nu) nc, .slice ia (List.length it) ic] ∧ (-9223372036854775808 ≤ k ∧ k ≤ 9223372036854775807) ∧
      IntsAt w sa sc sh ∧ IntsAt w na nc nu ∧ it.length ≤ ic ∧ ic ≤ 9223372036854775807 ∧ ∃ b off : Nat, (it ≠ [] → ia = some ⟨b, off, none⟩) ∧ ArrsAt w b off it
/-- The arrays of a list lie one behind the other. -/
def ArrsAt (w : World) (b off : Nat) : List Arr → Prop
  | [] => True
  | A :: r => (∃ c0 c1 c2 c3 : Value, (w.cell? ⟨b, off, none⟩ = some c0 ∧ w.cell? ⟨b, off + 1, none⟩ = some c1 ∧ w.cell? ⟨b, off + 2, none⟩ = some c2 ∧ w.cell? ⟨b, off + 3, none⟩ = some c3) ∧ ArrAt w (.agg #[c0, c1, c2, c3]) A) ∧ ArrsAt w b (off + 4) r
end

mutual
theorem ArrAt.below {w w' : World} (hb : Below w.heap.size w w') : ∀ {v : Value} {A : Arr}, ArrAt w v A → ArrAt w' v A
  | _, .mk k sh nu it, h => by
    rw [ArrAt] at h ⊢
    obtain ⟨sa, sc, na, nc, ia, ic, hv, hk, hs, hn, h1, h2, b, off, ha, hc⟩ := h
    exact ⟨sa, sc, na, nc, ia, ic, hv, hk, hs.below hb, hn.below hb, h1, h2, b, off, ha, ArrsAt.below hb hc⟩
theorem ArrsAt.below {w w' : World} (hb : Below w.heap.size w w') : ∀ {b off : Nat} {l : List Arr}, ArrsAt w b off l → ArrsAt w' b off l
  | _, _, [], _ => by rw [ArrsAt]; trivial
  | b, off, A :: r, h => by
    rw [ArrsAt] at h ⊢
    obtain ⟨⟨c0, c1, c2, c3, ⟨h0, h1, h2, h3⟩, hA⟩, hr⟩ := h
    exact ⟨⟨c0, c1, c2, c3, ⟨(hb.cell (cell_lt h0)).trans h0, (hb.cell (cell_lt h1)).trans h1, (hb.cell (cell_lt h2)).trans h2, (hb.cell (cell_lt h3)).trans h3⟩, ArrAt.below hb hA⟩, ArrsAt.below hb hr⟩
end

theorem ArrsAt.at {w : World} : ∀ {l : List Arr} {b off : Nat}, ArrsAt w b off l → ∀ {k : Nat} (hk : k < l.length), ∃ c0 c1 c2 c3 : Value,
    (w.cell? ⟨b, off + k * 4, none⟩ = some c0 ∧ w.cell? ⟨b, off + k * 4 + 1, none⟩ = some c1 ∧ w.cell? ⟨b, off + k * 4 + 2, none⟩ = some c2 ∧ w.cell? ⟨b, off + k * 4 + 3, none⟩ = some c3) ∧ ArrAt w (.agg #[c0, c1, c2, c3]) l[k]
  | [], _, _, _, k, hk => absurd hk (by simp)
  | A :: r, b, off, h, k, hk => by
    rw [ArrsAt] at h
    cases k with
    | zero => simpa using h.1
    | succ k =>
      have := ArrsAt.at h.2 (k := k) (by simpa using hk)
      have e : off + 4 + k * 4 = off + (k + 1) * 4 := by omega
      rw [e] at this
      simpa using this

mutual
/-- How many arrays there are in an array: for inductions. -/
def rk : Arr → Nat
  | .mk _ _ _ it => rkL it + 1
def rkL : List Arr → Nat
  | [] => 0
  | A :: r => rk A + rkL r
end
theorem rkL_at : ∀ {l : List Arr} {k : Nat} (h : k < l.length), rk l[k] ≤ rkL l
  | [], _, h => absurd h (by simp)
  | A :: r, 0, _ => by simp only [List.getElem_cons_zero, rkL]; omega
  | A :: r, k + 1, h => by
    have := rkL_at (l := r) (k := k) (by simpa using h)
    simp only [List.getElem_cons_succ, rkL]; omega
theorem rk_item {k : Int} {sh nu : List Int} {it : List Arr} {j : Nat} (h : j < it.length) : rk it[j] < rk (.mk k sh nu it) := by
  have := rkL_at h
  rw [rk]; omega
end Go.Proofs.Ytekbdiniibmhgaa.Shape

namespace Go.Proofs.Ytekbdiniibmhgaa.Shape
open Go.RowKit

theorem ret_int {a b : Int} (h : a = b) : Ending.returned (.int .i64 a) = .returned (.int .i64 b) := by rw [h]
theorem below_new (w : World) (o : Obj) : Below w.heap.size w (w.alloc o) := (Below.refl _ _).alloc (Nat.le_refl _) _
theorem Below.then {a b c : World} (h : Below a.heap.size a b) (k : Below b.heap.size b c) : Below a.heap.size a c := h.trans (k.mono h.size)

/-- The number of elements. -/
def aSize (A : Arr) : Nat := if A.kind = 1 ∨ A.kind = 2 then A.nums.length else if A.kind = 3 then A.items.length else 0

theorem aSize_le {k : Int} {sh nu : List Int} {it : List Arr} {N : Nat} (h1 : nu.length ≤ N) (h2 : it.length ≤ N) : aSize (.mk k sh nu it) ≤ N := by
  unfold aSize
  split
  · exact h1
  · split
    · exact h2
    · omega
theorem sizeR (v : Value) (A : Arr) (w : World) (h : ArrAt w v A) :
    Calls Try.prog 74 #[v] w fun e w' => e = .returned (.int .i64 (aSize A)) ∧ Below w.heap.size w w' := by
  obtain ⟨k, sh, nu, it⟩ := A
  rw [ArrAt] at h
  obtain ⟨sa, sc, na, nc, ia, ic, rfl, hk, hs, hn, h1, h2, b, off, ha, hc⟩ := h
  clear hk hs hn h1 h2 ha hc
  by_cases k1 : k = 1
  · subst k1
    go_enter Try.func74, Try.ntmps74
    go_wp2
    go_ret
    exact ⟨rfl, below_new _ _⟩
  · by_cases k2 : k = 2
    · subst k2
      go_enter Try.func74, Try.ntmps74
      go_wp2
      go_ret
      exact ⟨rfl, below_new _ _⟩
    · by_cases k3 : k = 3
      · subst k3
        go_enter Try.func74, Try.ntmps74
        go_wp2
        go_ret
        exact ⟨rfl, below_new _ _⟩
      · have e1 : (k == 1) = false := by simpa using k1
        have e2 : (k == 2) = false := by simpa using k2
        have e3 : (k == 3) = false := by simpa using k3
        have es : aSize (.mk k sh nu it) = 0 := by simp [aSize, Arr.kind, k1, k2, k3]
        clear k1 k2 k3
        go_enter Try.func74, Try.ntmps74
        go_wp2
        go_ret
        exact ⟨by first | rfl | (rw [es]; rfl), below_new _ _⟩
end Go.Proofs.Ytekbdiniibmhgaa.Shape

namespace Go.Proofs.Ytekbdiniibmhgaa.Shape
open Go.RowKit

mutual
/-- The number of elements including those of the items, at most 262145. -/
def wt : Arr → Int
  | .mk k sh nu it => min ((aSize (.mk k sh nu it) : Int) + (if k = 3 then sumW it else 0)) 262145
def sumW : List Arr → Int
  | [] => 0
  | A :: r => wt A + sumW r
end
mutual
theorem wt_nn : ∀ A, 0 ≤ wt A
  | .mk k sh nu it => by
    have := sumW_nn it
    rw [wt]; split <;> omega
theorem sumW_nn : ∀ l, 0 ≤ sumW l
  | [] => by rw [sumW]; omega
  | A :: r => by
    have := wt_nn A
    have := sumW_nn r
    rw [sumW]; omega
end
theorem wt_le (A : Arr) : wt A ≤ 262145 := by
  obtain ⟨k, sh, nu, it⟩ := A
  rw [wt]; omega
theorem sumW_append (a b : List Arr) : sumW (a ++ b) = sumW a + sumW b := by
  induction a with
  | nil => simp [sumW]
  | cons A r ih => rw [List.cons_append, sumW, sumW, ih]; omega
theorem sumW_step {l : List Arr} {k : Nat} (h : k < l.length) : sumW (l.take (k + 1)) = sumW (l.take k) + wt l[k] := by
  rw [List.take_succ_eq_append_getElem h, sumW_append, sumW, sumW]; omega
theorem sumW_take (l : List Arr) (k : Nat) : sumW (l.take k) ≤ sumW l := by
  have h : sumW (l.take k ++ l.drop k) = sumW l := by rw [List.take_append_drop]
  rw [sumW_append] at h
  have := sumW_nn (l.drop k)
  omega

/-- A struct of four cells in block B: a parameter. -/
def Par (w : World) (B : Nat) (c0 c1 c2 c3 : Value) : Prop := B < w.heap.size ∧ w.cell? ⟨B, 0, none⟩ = some c0 ∧ w.cell? ⟨B, 1, none⟩ = some c1 ∧ w.cell? ⟨B, 2, none⟩ = some c2 ∧ w.cell? ⟨B, 3, none⟩ = some c3
theorem Par.below {w w' : World} {B : Nat} {c0 c1 c2 c3 : Value} (h : Par w B c0 c1 c2 c3) (hb : Below w.heap.size w w') : Par w' B c0 c1 c2 c3 := by
  obtain ⟨h0, h1, h2, h3, h4⟩ := h
  exact ⟨Nat.lt_of_lt_of_le h0 hb.size, (hb.cell h0).trans h1, (hb.cell h0).trans h2, (hb.cell h0).trans h3, (hb.cell h0).trans h4⟩
theorem Par.new (w : World) (c0 c1 c2 c3 : Value) (t : TypeId) : Par (w.alloc (.cells #[c0, c1, c2, c3] t)) w.heap.size c0 c1 c2 c3 := by
  refine ⟨by simp, ?_, ?_, ?_, ?_⟩ <;> rw [World.cell?_alloc_new] <;> rfl

theorem elemArrs : Try.prog.underlying 31 = some (.slice (Try.prog.elem 31)) := by kernel_rfl
theorem sizeArrs (w : World) : (sizeOf (Try.prog.elem 31)).run Try.prog w = .ok 4 w := by kernel_rfl
/-- Where item k lies. -/
theorem items_at {ia : Option Addr} {n ic b off : Nat} {l : List Arr} (hn : n = l.length) (ha : l ≠ [] → ia = some ⟨b, off, none⟩) {k : Nat} (hk : k < l.length) (w' : World) :
    (Instr.indexAt 31 (.slice ia n ic) (.int .i64 k)).run Try.prog w' = .ok (.pointer (some ⟨b, off + k * 4, none⟩)) w' := by
  subst hn
  have e := ha (by intro e; subst e; simp at hk)
  subst e
  rw [run_indexAt_slice w' _ _ _ _ .i64 k elemArrs, if_pos (by omega), sizeArrs]
  show Result.ok _ w' = _
  rw [show (k : Int).toNat = k by omega, add_plain]

theorem min_low {x : Int} (h : x ≤ 262145) : min x 262145 = x := by omega
theorem min_high {x : Int} (h : 262145 ≤ x) : min x 262145 = 262145 := by omega

set_option maxHeartbeats 1000000 in
theorem weightR_any (n : Nat) : ∀ (v : Value) (A : Arr) (w : World), rk A ≤ n → ArrAt w v A → Calls Try.prog 78 #[v] w fun e w' => e = .returned (.int .i64 (wt A)) ∧ Below w.heap.size w w' := by
  induction n with
  | zero =>
    intro v A w hn _
    obtain ⟨k, sh, nu, it⟩ := A
    rw [rk] at hn; omega
  | succ n ih =>
    intro v A w hn h
    have hA := h
    obtain ⟨k, sh, nu, it⟩ := A
    rw [ArrAt] at h
    obtain ⟨sa, sc, na, nc, ia, ic, rfl, hk, hs, hnn, h1, h2, b, off, ha, hc⟩ := h
    have hnl := hnn.len
    by_cases k3 : k = 3
    · subst k3
      have HW : Hid (wt (.mk 3 sh nu it) = min ((it.length : Int) + sumW it) 262145) := by unfold Hid; rw [wt]; rfl
      clear hs hnn hk
      go_enter Try.func78, Try.ntmps78
      go_wp2_with (go_at_call 74; refine (sizeR _ _ _ (hA.below (below_new _ _))).mono ?_; rintro e w1 ⟨rfl, hb1⟩)
      go_loopw [3, 4] (fun m i wr => ∃ (j : Nat), j ≤ it.length ∧ i = .int .i64 j ∧ m = .int .i64 ((it.length : Int) + sumW (it.take j)) ∧ Par wr w.heap.size (.int .i64 3) (.slice sa sh.length sc) (.slice na nu.length nc) (.slice ia it.length ic) ∧ Below w.heap.size w wr) (fun _ i _ => it.length - (intOf i).toNat)
      case atStart => exact ⟨0, Nat.zero_le _, rfl, by rw [List.take_zero, sumW, Int.add_zero]; rfl, (Par.new w _ _ _ _ _).below hb1, Below.then (below_new _ _) hb1⟩
      case round =>
        obtain ⟨j, hj, rfl, rfl, hp, hb⟩ := hrel
        obtain ⟨p0, p1, p2, p3, p4⟩ := id hp
        have s0 := sumW_nn (it.take j)
        by_cases hlt : j < it.length
        · by_cases c4 : (it.length : Int) + sumW (it.take j) ≤ 262144
          · have hi := items_at (ic := ic) rfl ha hlt
            obtain ⟨c0, c1, c2, c3, ⟨g0, g1, g2, g3⟩, hB⟩ := (ArrsAt.below hb hc).at hlt
            have HS : Hid (sumW (it.take (j + 1)) = sumW (it.take j) + wt it[j]) := sumW_step hlt
            have l1 := wt_nn it[j]
            have l2 := wt_le it[j]
            go_wp2_with (go_at_call 78; refine (ih _ _ _ (Nat.le_of_lt_succ (Nat.lt_of_lt_of_le (rk_item hlt) hn)) hB).mono ?_; rintro e w2 ⟨rfl, hb2⟩)
            go_roundw
            case rel => exact ⟨j + 1, by omega, by go_num, by rw [HS.out, Int.add_assoc], hp.below hb2, hb.trans (hb2.mono hb.size)⟩
            case measure => simp [intOf]; omega
          · have HE : Hid (wt (.mk 3 sh nu it) = 262145) := by unfold Hid; rw [HW.out]; have := sumW_take it j; exact min_high (by omega)
            clear HW
            go_wp2_with fail
            all_goals go_ret
            all_goals exact ⟨ret_int (by have := HE.out; omega), hb⟩
        · obtain rfl : j = it.length := by omega
          clear s0
          have s0 := sumW_nn it
          have HE := HW
          clear HW
          by_cases c5 : (it.length : Int) + sumW it ≤ 262145
          · have HF : Hid (wt (.mk 3 sh nu it) = (it.length : Int) + sumW it) := by unfold Hid; rw [HE.out]; exact min_low c5
            clear HE
            go_wp2_with fail
            go_ret
            exact ⟨ret_int HF.out.symm, hb⟩
          · have HF : Hid (wt (.mk 3 sh nu it) = 262145) := by unfold Hid; rw [HE.out]; exact min_high (by omega)
            clear HE
            go_wp2_with fail
            go_ret
            exact ⟨ret_int HF.out.symm, hb⟩
    · have e3 : (k == 3) = false := by simpa using k3
      have HW : Hid (wt (.mk k sh nu it) = min (aSize (.mk k sh nu it) : Int) 262145) := by unfold Hid; rw [wt, if_neg k3, Int.add_zero]
      obtain ⟨z, hzz, hz1⟩ : ∃ z : Nat, aSize (.mk k sh nu it) = z ∧ z ≤ 9223372036854775807 := by
        exact ⟨_, rfl, aSize_le hnl (by omega)⟩
      have S := fun w' (g : ArrAt w' (.agg #[.int .i64 k, .slice sa sh.length sc, .slice na nu.length nc, .slice ia it.length ic]) (.mk k sh nu it)) => sizeR _ _ w' g
      rw [hzz] at S HW
      clear hs hnn k3 hzz
      by_cases hpos : 0 < it.length
      · by_cases c5 : (z : Int) ≤ 262145
        · have HF : Hid (wt (.mk k sh nu it) = (z : Int)) := by unfold Hid; rw [HW.out]; exact min_low c5
          clear HW
          go_enter Try.func78, Try.ntmps78
          go_wp2_with (go_at_call 74; refine (S _ (hA.below (below_new _ _))).mono ?_; rintro e w1 ⟨rfl, hb1⟩)
          obtain ⟨p0, p1, p2, p3, p4⟩ := (Par.new w (.int .i64 k) (.slice sa sh.length sc) (.slice na nu.length nc) (.slice ia it.length ic) _).below hb1
          refine wp_loop_rounds 1 ?_
          rw [rounds_succ]
          go_wp2_with fail
          go_ret
          exact ⟨ret_int HF.out.symm, Below.then (below_new _ _) hb1⟩
        · have HF : Hid (wt (.mk k sh nu it) = 262145) := by unfold Hid; rw [HW.out]; exact min_high (by omega)
          clear HW
          go_enter Try.func78, Try.ntmps78
          go_wp2_with (go_at_call 74; refine (S _ (hA.below (below_new _ _))).mono ?_; rintro e w1 ⟨rfl, hb1⟩)
          obtain ⟨p0, p1, p2, p3, p4⟩ := (Par.new w (.int .i64 k) (.slice sa sh.length sc) (.slice na nu.length nc) (.slice ia it.length ic) _).below hb1
          refine wp_loop_rounds 1 ?_
          rw [rounds_succ]
          go_wp2_with fail
          go_ret
          exact ⟨ret_int HF.out.symm, Below.then (below_new _ _) hb1⟩
      · by_cases c5 : (z : Int) ≤ 262145
        · have HF : Hid (wt (.mk k sh nu it) = (z : Int)) := by unfold Hid; rw [HW.out]; exact min_low c5
          clear HW
          go_enter Try.func78, Try.ntmps78
          go_wp2_with (go_at_call 74; refine (S _ (hA.below (below_new _ _))).mono ?_; rintro e w1 ⟨rfl, hb1⟩)
          obtain ⟨p0, p1, p2, p3, p4⟩ := (Par.new w (.int .i64 k) (.slice sa sh.length sc) (.slice na nu.length nc) (.slice ia it.length ic) _).below hb1
          refine wp_loop_rounds 1 ?_
          rw [rounds_succ]
          go_wp2_with fail
          go_ret
          exact ⟨ret_int HF.out.symm, Below.then (below_new _ _) hb1⟩
        · have HF : Hid (wt (.mk k sh nu it) = 262145) := by unfold Hid; rw [HW.out]; exact min_high (by omega)
          clear HW
          go_enter Try.func78, Try.ntmps78
          go_wp2_with (go_at_call 74; refine (S _ (hA.below (below_new _ _))).mono ?_; rintro e w1 ⟨rfl, hb1⟩)
          obtain ⟨p0, p1, p2, p3, p4⟩ := (Par.new w (.int .i64 k) (.slice sa sh.length sc) (.slice na nu.length nc) (.slice ia it.length ic) _).below hb1
          refine wp_loop_rounds 1 ?_
          rw [rounds_succ]
          go_wp2_with fail
          go_ret
          exact ⟨ret_int HF.out.symm, Below.then (below_new _ _) hb1⟩

theorem weightR (v : Value) (A : Arr) (w : World) (h : ArrAt w v A) : Calls Try.prog 78 #[v] w fun e w' => e = .returned (.int .i64 (wt A)) ∧ Below w.heap.size w w' :=
  weightR_any (rk A) v A w (Nat.le_refl _) h
end Go.Proofs.Ytekbdiniibmhgaa.Shape

namespace Go.Proofs.Ytekbdiniibmhgaa.Shape
open Go.RowKit

theorem ret_bool {a b : Bool} (h : a = b) : Ending.returned (.bool a) = .returned (.bool b) := by rw [h]
def prodS (xs : List Int) : Int := if nz xs ≤ 65536 then nz xs else 65537
theorem prodS_small {xs : List Int} (h : nz xs ≤ 65536) : prodS xs = nz xs := by rw [prodS, if_pos h]
theorem prodS_big {xs : List Int} (h : 65536 < nz xs) : prodS xs = 65537 := by rw [prodS, if_neg (by omega)]
theorem nz_huge {xs : List Int} {k : Nat} (hn : NN xs) (hk : k < xs.length) (h : 65536 < xs[k]) : 65536 < nz xs := by
  have e := split_at xs k hk
  rw [e] at hn
  have h4 := nz_right hn
  have h5 := nz_pos hn.right.tail
  rw [nz, if_neg (by omega)] at h4
  have : xs[k] * 1 ≤ xs[k] * nz (xs.drop (k + 1)) := Int.mul_le_mul_of_nonneg_left h5 (by omega)
  rw [← e] at h4
  omega
theorem nz_over {xs : List Int} {k : Nat} (hn : NN xs) (h : 65536 < nz (xs.take (k + 1))) : 65536 < nz xs := by
  have e : xs.take (k + 1) ++ xs.drop (k + 1) = xs := List.take_append_drop _ _
  have := nz_left (a := xs.take (k + 1)) (b := xs.drop (k + 1)) (by rw [e]; exact hn)
  rw [e] at this
  omega
theorem NN.take {xs : List Int} (h : NN xs) (k : Nat) : NN (xs.take k) := fun x hx => h x (List.mem_of_mem_take hx)

set_option maxHeartbeats 1000000 in
theorem prodR (a : Option Addr) (cap : Nat) (xs : List Int) (w : World) (h : IntsAt w a cap xs) (hn : NN xs) :
    Calls Try.prog 86 #[.slice a xs.length cap] w fun e w' => e = .returned (.int .i64 (prodS xs)) ∧ w = w' := by
  have hl := h.len
  go_enter Try.func86, Try.ntmps86
  go_wp2
  go_loop [3, 4] (fun p i => ∃ k : Nat, k ≤ xs.length ∧ i = .int .i64 k ∧ p = .int .i64 (nz (xs.take k)) ∧ nz (xs.take k) ≤ 65536) (fun _ i => xs.length - (intOf i).toNat)
  case atStart => exact ⟨0, Nat.zero_le _, rfl, rfl, by show (1 : Int) ≤ 65536; decide⟩
  case round =>
    obtain ⟨k, hk, rfl, rfl, hp⟩ := hrel
    have hp1 := nz_pos (hn.take k)
    by_cases hlt : k < xs.length
    · obtain ⟨b, off, hi, hc⟩ := h.at hlt
      have hx : 0 ≤ xs[k] := hn _ (List.getElem_mem hlt)
      by_cases c2 : 65536 < xs[k]
      · have HE : Hid (prodS xs = 65537) := prodS_big (nz_huge hn hlt c2)
        go_wp2
        go_ret
        exact ⟨ret_int HE.out.symm, rfl⟩
      · by_cases c3 : xs[k] = 0
        · have hs := nz_step hlt
          rw [if_pos c3, Int.mul_one] at hs
          have c3' : ¬ 0 < xs[k] := by omega
          have hp2 : nz (xs.take (k + 1)) ≤ 65536 := by omega
          have HS : Hid (nz (xs.take (k + 1)) = nz (xs.take k)) := hs
          clear hs c3
          go_wp2
          go_round
          case rel => exact ⟨k + 1, by omega, by go_num, by rw [HS.out], hp2⟩
          case measure => simp [intOf]; omega
        · have hs := nz_step hlt
          rw [if_neg c3] at hs
          have c3' : 0 < xs[k] := by omega
          have hm : 0 ≤ nz (xs.take k) * xs[k] ∧ nz (xs.take k) * xs[k] ≤ 65536 * 65536 :=
            ⟨Int.mul_nonneg (by omega) (by omega), Int.mul_le_mul hp (by omega) (by omega) (by decide)⟩
          obtain ⟨m1, m2⟩ := hm
          have HS : Hid (nz (xs.take (k + 1)) = nz (xs.take k) * xs[k]) := hs
          by_cases c4 : 65536 < nz (xs.take k) * xs[k]
          · have HE : Hid (prodS xs = 65537) := prodS_big (nz_over (k := k) hn (by rw [hs]; exact c4))
            clear hs c3
            go_wp2
            go_ret
            exact ⟨ret_int HE.out.symm, rfl⟩
          · have hp2 : nz (xs.take (k + 1)) ≤ 65536 := by rw [hs]; omega
            clear hs c3
            go_wp2
            go_round
            case rel => exact ⟨k + 1, by omega, by go_num, by rw [HS.out], hp2⟩
            case measure => simp [intOf]; omega
    · obtain rfl : k = xs.length := by omega
      rw [List.take_length] at hp
      have HE : Hid (prodS xs = nz xs) := prodS_small hp
      go_wp2
      go_ret
      exact ⟨ret_int HE.out.symm, rfl⟩

/-- The first error of a shape. -/
def dimsE (xs : List Int) : Int := if 8 < xs.length then 15 else if NN xs then (if nz xs ≤ 65536 then 0 else 21) else 16
theorem dimsE_long {xs : List Int} (h : 8 < xs.length) : dimsE xs = 15 := by rw [dimsE, if_pos h]
theorem dimsE_neg {xs : List Int} (h : ¬ 8 < xs.length) (hn : ¬ NN xs) : dimsE xs = 16 := by rw [dimsE, if_neg h, if_neg hn]
theorem dimsE_big {xs : List Int} (h : ¬ 8 < xs.length) (hn : NN xs) (h2 : ¬ nz xs ≤ 65536) : dimsE xs = 21 := by rw [dimsE, if_neg h, if_pos hn, if_neg h2]
theorem dimsE_ok {xs : List Int} (h : ¬ 8 < xs.length) (hn : NN xs) (h2 : nz xs ≤ 65536) : dimsE xs = 0 := by rw [dimsE, if_neg h, if_pos hn, if_pos h2]
theorem dimsE_right (xs : List Int) : dimsE xs = 0 ↔ rightB xs = true := by
  rw [right_def, dimsE]
  by_cases h : 8 < xs.length
  · rw [if_pos h]; constructor <;> intro g <;> omega
  · rw [if_neg h]
    by_cases hn : NN xs
    · rw [if_pos hn]
      by_cases h2 : nz xs ≤ 65536
      · rw [if_pos h2]; exact ⟨fun _ => ⟨by omega, hn, h2⟩, fun _ => rfl⟩
      · rw [if_neg h2]; exact ⟨fun g => by omega, fun g => absurd g.2.2 h2⟩
    · rw [if_neg hn]; exact ⟨fun g => by omega, fun g => absurd g.2.1 hn⟩

set_option maxHeartbeats 1000000 in
theorem dimsR (a : Option Addr) (cap : Nat) (xs : List Int) (w : World) (h : IntsAt w a cap xs) :
    Calls Try.prog 73 #[.slice a xs.length cap] w fun e w' => e = .returned (.int .i64 (dimsE xs)) ∧ w = w' := by
  have hl := h.len
  by_cases h8 : 8 < xs.length
  · have HE : Hid (dimsE xs = 15) := dimsE_long h8
    go_enter Try.func73, Try.ntmps73
    go_wp2
    go_ret
    exact ⟨ret_int HE.out.symm, rfl⟩
  · go_enter Try.func73, Try.ntmps73
    go_wp2
    go_loop [3] (fun i => ∃ k : Nat, k ≤ xs.length ∧ i = .int .i64 k ∧ NN (xs.take k)) (fun i => xs.length - (intOf i).toNat)
    case atStart => exact ⟨0, Nat.zero_le _, rfl, NN.nil⟩
    case round =>
      obtain ⟨k, hk, rfl, hn⟩ := hrel
      by_cases hlt : k < xs.length
      · obtain ⟨b, off, hi, hc⟩ := h.at hlt
        by_cases c1 : xs[k] < 0
        · have HE : Hid (dimsE xs = 16) := dimsE_neg h8 (fun g => by have := g _ (List.getElem_mem hlt); omega)
          go_wp2
          go_ret
          exact ⟨ret_int HE.out.symm, rfl⟩
        · have hn2 : NN (xs.take (k + 1)) := by rw [take_snoc xs k hlt]; exact hn.snoc (by omega)
          go_wp2
          go_round
          case rel => exact ⟨k + 1, by omega, by go_num, hn2⟩
          case measure => simp [intOf]; omega
      · obtain rfl : k = xs.length := by omega
        rw [List.take_length] at hn
        by_cases c2 : nz xs ≤ 65536
        · have HE : Hid (dimsE xs = 0) := dimsE_ok h8 hn c2
          have hp := prodS_small c2
          go_wp2_with (go_at_call 86; refine (prodR _ _ _ _ h hn).mono ?_; rintro e w' ⟨rfl, rfl⟩)
          go_ret
          exact ⟨ret_int HE.out.symm, rfl⟩
        · have HE : Hid (dimsE xs = 21) := dimsE_big h8 hn c2
          have hp := prodS_big (xs := xs) (by omega)
          go_wp2_with (go_at_call 86; refine (prodR _ _ _ _ h hn).mono ?_; rintro e w' ⟨rfl, rfl⟩)
          go_ret
          exact ⟨ret_int HE.out.symm, rfl⟩

theorem pr_zero {xs : List Int} {k : Nat} (hk : k < xs.length) (h : xs[k] = 0) : pr xs = 0 := by
  rw [split_at xs k hk, pr_append, pr, h]; simp
set_option maxHeartbeats 1000000 in
theorem countR (a : Option Addr) (cap : Nat) (xs : List Int) (w : World) (h : IntsAt w a cap xs) (hr : rightB xs = true) :
    Calls Try.prog 75 #[.slice a xs.length cap] w fun e w' => e = .returned (.int .i64 (pr xs)) ∧ w = w' := by
  have hl := h.len
  obtain ⟨r1, r2, r3⟩ := right_def.1 hr
  go_enter Try.func75, Try.ntmps75
  go_wp2
  go_loop [3] (fun i => ∃ k : Nat, k ≤ xs.length ∧ i = .int .i64 k ∧ ∀ x ∈ xs.take k, x ≠ 0) (fun i => xs.length - (intOf i).toNat)
  case atStart => exact ⟨0, Nat.zero_le _, rfl, fun x hx => absurd hx (by simp)⟩
  case round =>
    obtain ⟨k, hk, rfl, hz⟩ := hrel
    by_cases hlt : k < xs.length
    · obtain ⟨b, off, hi, hc⟩ := h.at hlt
      by_cases c1 : xs[k] = 0
      · have HE : Hid (pr xs = 0) := pr_zero hlt c1
        have c1' : (xs[k] == 0) = true := by simpa using c1
        clear c1
        go_wp2
        go_ret
        exact ⟨ret_int HE.out.symm, rfl⟩
      · have HZ : Hid (∀ x ∈ xs.take (k + 1), x ≠ 0) := by
          unfold Hid; rw [take_snoc xs k hlt]; intro x hx
          rcases List.mem_append.1 hx with g | g
          · exact hz x g
          · rw [List.mem_singleton.1 g]; exact c1
        have c1' : (xs[k] == 0) = false := by simpa using c1
        clear c1 hz
        go_wp2
        go_round
        case rel => exact ⟨k + 1, by omega, by go_num, HZ.out⟩
        case measure => simp [intOf]; omega
    · obtain rfl : k = xs.length := by omega
      rw [List.take_length] at hz
      have HE : Hid (pr xs = prodS xs) := by unfold Hid; rw [prodS_small r3]; exact pr_eq_nz hz
      clear hz
      go_wp2_with (go_at_call 86; refine (prodR _ _ _ _ h r2).mono ?_; rintro e w' ⟨rfl, rfl⟩)
      go_ret
      exact ⟨ret_int HE.out.symm, rfl⟩

def numB (n : Int) : Bool := decide (-4611686018427387903 ≤ n ∧ n ≤ 4611686018427387903)
def runeB (n : Int) : Bool := decide (0 ≤ n ∧ n ≤ 1114111 ∧ (n < 55296 ∨ 57343 < n))
theorem numberR (n : Int) (w : World) : Calls Try.prog 76 #[.int .i64 n] w fun e w' => e = .returned (.bool (numB n)) ∧ w = w' := by
  rcases Int.lt_or_le n (-4611686018427387903) with h | h
  · go_enter Try.func76, Try.ntmps76
    go_wp2
    go_ret
    exact ⟨ret_bool (by simp [numB]; omega), rfl⟩
  · rcases Int.lt_or_le 4611686018427387903 n with h2 | h2
    · go_enter Try.func76, Try.ntmps76
      go_wp2
      go_ret
      exact ⟨ret_bool (by simp [numB]; omega), rfl⟩
    · go_enter Try.func76, Try.ntmps76
      go_wp2
      go_ret
      exact ⟨ret_bool (by simp [numB]; omega), rfl⟩
theorem runeR (n : Int) (w : World) : Calls Try.prog 77 #[.int .i64 n] w fun e w' => e = .returned (.bool (runeB n)) ∧ w = w' := by
  by_cases h0 : 0 ≤ n
  · by_cases h1 : n ≤ 1114111
    · by_cases h2 : n < 55296
      · go_enter Try.func77, Try.ntmps77
        go_wp2
        go_ret
        exact ⟨ret_bool (by simp [runeB]; omega), rfl⟩
      · by_cases h3 : 57343 < n
        · go_enter Try.func77, Try.ntmps77
          go_wp2
          go_ret
          exact ⟨ret_bool (by simp [runeB]; omega), rfl⟩
        · go_enter Try.func77, Try.ntmps77
          go_wp2
          go_ret
          exact ⟨ret_bool (by simp [runeB]; omega), rfl⟩
    · go_enter Try.func77, Try.ntmps77
      go_wp2
      go_ret
      exact ⟨ret_bool (by simp [runeB]; omega), rfl⟩
  · go_enter Try.func77, Try.ntmps77
    go_wp2
    go_ret
    exact ⟨ret_bool (by simp [runeB]; omega), rfl⟩
end Go.Proofs.Ytekbdiniibmhgaa.Shape

namespace Go.Proofs.Ytekbdiniibmhgaa.Shape

/-- Is n an element of an array of kind k? -/
def elemB (k n : Int) : Bool := !((k == 1 && !numB n) || (k == 2 && !runeB n))
/-- What the other field's length must be: 0. -/
def other (k : Int) (nu : List Int) (it : List Arr) : Nat := if k = 3 then nu.length else it.length
def lastE (d w : Int) : Int × Int := if 16 < d ∨ 262144 < w then (21, 0) else (0, d)
mutual
/-- The first error of an array and, if there is none, its depth. -/
def chk : Arr → Int × Int
  | .mk k sh nu it =>
    if k < 1 ∨ 3 < k then (14, 0)
    else if dimsE sh ≠ 0 then (dimsE sh, 0)
    else if (aSize (.mk k sh nu it) : Int) ≠ pr sh ∨ 0 < other k nu it then (16, 0)
    else if nu.all (elemB k) = false then (17, 0)
    else match chkL 0 it with
      | none => (17, 0)
      | some d => lastE d (wt (.mk k sh nu it))
def chkL (d : Int) : List Arr → Option Int
  | [] => some d
  | A :: r => if (chk A).1 ≠ 0 then none else chkL (max d ((chk A).2 + 1)) r
end

theorem chk_kind {k : Int} {sh nu : List Int} {it : List Arr} (h : k < 1 ∨ 3 < k) : chk (.mk k sh nu it) = (14, 0) := by rw [chk, if_pos h]
theorem chk_dims {k : Int} {sh nu : List Int} {it : List Arr} (h : ¬ (k < 1 ∨ 3 < k)) (hd : dimsE sh ≠ 0) : chk (.mk k sh nu it) = (dimsE sh, 0) := by rw [chk, if_neg h, if_pos hd]
theorem chk_len {k : Int} {sh nu : List Int} {it : List Arr} (h : ¬ (k < 1 ∨ 3 < k)) (hd : dimsE sh = 0) (hl : (aSize (.mk k sh nu it) : Int) ≠ pr sh ∨ 0 < other k nu it) : chk (.mk k sh nu it) = (16, 0) := by
  rw [chk, if_neg h, if_neg (by simpa using hd), if_pos hl]
theorem chk_elem {k : Int} {sh nu : List Int} {it : List Arr} (h : ¬ (k < 1 ∨ 3 < k)) (hd : dimsE sh = 0) (hl : ¬ ((aSize (.mk k sh nu it) : Int) ≠ pr sh ∨ 0 < other k nu it)) (he : nu.all (elemB k) = false) : chk (.mk k sh nu it) = (17, 0) := by
  rw [chk, if_neg h, if_neg (by simpa using hd), if_neg hl, if_pos he]
theorem chk_rest {k : Int} {sh nu : List Int} {it : List Arr} (h : ¬ (k < 1 ∨ 3 < k)) (hd : dimsE sh = 0) (hl : ¬ ((aSize (.mk k sh nu it) : Int) ≠ pr sh ∨ 0 < other k nu it)) (he : nu.all (elemB k) = true) :
    chk (.mk k sh nu it) = match chkL 0 it with | none => (17, 0) | some d => lastE d (wt (.mk k sh nu it)) := by
  rw [chk, if_neg h, if_neg (by simpa using hd), if_neg hl, if_neg (by rw [he]; simp)]
theorem lastE_bd (d w : Int) (h : 0 ≤ d) : 0 ≤ (lastE d w).2 ∧ (lastE d w).2 ≤ 16 := by
  unfold lastE; split
  · exact ⟨Int.le_refl _, by decide⟩
  · show 0 ≤ d ∧ d ≤ 16; omega
theorem chkL_nn : ∀ (l : List Arr) (d e : Int), 0 ≤ d → chkL d l = some e → 0 ≤ e
  | [], d, e, h, g => by simp only [chkL, Option.some.injEq] at g; omega
  | A :: r, d, e, h, g => by
    rw [chkL] at g
    split at g
    · cases g
    · exact chkL_nn r _ e (by omega) g
theorem chk_bd (A : Arr) : 0 ≤ (chk A).2 ∧ (chk A).2 ≤ 16 := by
  obtain ⟨k, sh, nu, it⟩ := A
  rw [chk]
  split
  · exact ⟨Int.le_refl _, by show (0 : Int) ≤ 16; decide⟩
  · split
    · exact ⟨Int.le_refl _, by show (0 : Int) ≤ 16; decide⟩
    · split
      · exact ⟨Int.le_refl _, by show (0 : Int) ≤ 16; decide⟩
      · split
        · exact ⟨Int.le_refl _, by show (0 : Int) ≤ 16; decide⟩
        · split
          · exact ⟨Int.le_refl _, by show (0 : Int) ≤ 16; decide⟩
          · rename_i d hd; exact lastE_bd _ _ (chkL_nn it 0 d (Int.le_refl _) hd)
theorem chkL_bad {l : List Arr} {j : Nat} {d : Int} (h : j < l.length) (hb : (chk l[j]).1 ≠ 0) : chkL d (l.drop j) = none := by
  rw [List.drop_eq_getElem_cons h, chkL, if_pos hb]
theorem chkL_step {l : List Arr} {j : Nat} {d : Int} (h : j < l.length) (hb : (chk l[j]).1 = 0) : chkL d (l.drop j) = chkL (max d ((chk l[j]).2 + 1)) (l.drop (j + 1)) := by
  rw [List.drop_eq_getElem_cons h, chkL, if_neg (by simpa using hb)]
theorem chkL_end {l : List Arr} {j : Nat} {d : Int} (h : ¬ j < l.length) : chkL d (l.drop j) = some d := by
  rw [List.drop_eq_nil_of_le (by omega), chkL]
theorem all_bad {k : Int} {nu : List Int} {j : Nat} (h : j < nu.length) (hb : elemB k nu[j] = false) : nu.all (elemB k) = false := by
  rw [List.all_eq_false]; exact ⟨nu[j], List.getElem_mem h, by rw [hb]; simp⟩
theorem all_take {k : Int} {nu : List Int} {j : Nat} (h : j < nu.length) (ha : (nu.take j).all (elemB k) = true) (hb : elemB k nu[j] = true) : (nu.take (j + 1)).all (elemB k) = true := by
  rw [List.take_succ_eq_append_getElem h, List.all_append, ha]; simp [hb]
theorem max_left' {d e : Int} (h : e ≤ d) : max d e = d := by omega
theorem max_right' {d e : Int} (h : ¬ e ≤ d) : max d e = e := by omega
end Go.Proofs.Ytekbdiniibmhgaa.Shape
