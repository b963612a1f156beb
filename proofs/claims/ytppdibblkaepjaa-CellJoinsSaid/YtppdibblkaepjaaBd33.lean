/-
  Layer 4: the reference's Pad. (Written by wip/gen/cell-padr.py.)
  Layer 4: an own list of ints that may be written; the reference's Lead gives one.
  Layer 4: cells gathered one after another by the reference's put.
  Layer 4: the reference's Join where the frame is wrong, or where there are no cells.
  Layer 4: small things for the law of padding.
-/
import Derived.Test.YtppdibblkaepjaaBd32
import Derived.Test.YtppdibblkaepjaaBd21
import Derived.Test.YtppdibblkaepjaaBd18
import Derived.Deep.RegionHeldLaw
import Derived.Deep.CutRange
import Derived.Handy
import Derived.Test.YtppdibblkaepjaaBd28
namespace Go.Proofs.Ytppdibblkaepjaa.Shape
open Go.RowKit
set_option linter.unusedVariables false

/-- An array over blocks of a kind and an error. -/
def GiveOnE (P : Nat → Prop) (A : Arr) (er : Int) (w : World) (e : Ending) (w' : World) : Prop := ∃ k sa ls sc na ln nc ia li ic, e = .returned (.tuple #[.agg #[.int .i64 k, .slice sa ls sc, .slice na ln nc, .slice ia li ic], .int .i64 er]) ∧ ArrOn P w' (.agg #[.int .i64 k, .slice sa ls sc, .slice na ln nc, .slice ia li ic]) A ∧ Below w.heap.size w w'
theorem checkedRR {P : Nat → Prop} (k : Int) (sa : Option Addr) (ls sc : Nat) (na : Option Addr) (ln nc : Nat) (ia : Option Addr) (li ic : Nat) (A : Arr) (w : World) (h : ArrOn P w (.agg #[.int .i64 k, .slice sa ls sc, .slice na ln nc, .slice ia li ic]) A) : Calls Try.prog 42 #[.agg #[.int .i64 k, .slice sa ls sc, .slice na ln nc, .slice ia li ic]] w (GiveOnE P (outR A).1 (outR A).2 w) := by
  refine (checkedR _ A w h.at).mono ?_
  rintro e w' ⟨h1, h2, hb⟩
  rw [outR]
  by_cases hx : rightE A = 0
  · rw [if_pos hx]
    exact ⟨_, _, _, _, _, _, _, _, _, _, h1 hx, (h.below hb).mono fun g hg => hg.1, hb⟩
  · rw [if_neg hx]
    exact ⟨_, _, _, _, _, _, _, _, _, _, h2 hx, zero_on P _, hb⟩
theorem ints_set4 {w : World} {a : Option Addr} {c B n X : Nat} {xs : List Int} {z0 z1 z2 z3 : Value} (ho : w.ownsRow B 3 1 (.slice a xs.length c) n (xs.map (Value.int .i64))) (q : Quad w X z0 z1 z2 z3) (hb : ∀ x ∈ xs, -9223372036854775808 ≤ x ∧ x ≤ 9223372036854775807) (c0 c1 c2 c3 : Value) :
    IntsOn (fun g => B ≤ g) ((((w.setCell ⟨X, 0, none⟩ c0).setCell ⟨X, 1, none⟩ c1).setCell ⟨X, 2, none⟩ c2).setCell ⟨X, 3, none⟩ c3) a c xs := by
  have hn : n = xs.length := by
    rcases ho.2 with ⟨hv, h0⟩ | ⟨g, cap, cur, hv, -⟩
    · simp only [Value.slice.injEq] at hv
      rw [hv.2.1, h0]
    · simp only [Value.slice.injEq] at hv
      exact hv.2.1.symm
  obtain ⟨a', c', hv, hi⟩ := row_ints hn ho q hb
  simp only [Value.slice.injEq, true_and] at hv
  obtain ⟨rfl, rfl⟩ := hv
  exact (hi.keep (R := fun g => B ≤ g) fun g hg _ => ⟨hg.1, fun o => World.cell?_of_block ((set4 q c0 c1 c2 c3).2 g hg.2)⟩)
theorem small_wrap {q : Nat} (h : q ≤ 10000000) : wrap64 (q : Int) = (q : Int) := IntWalk.wrap64_in _ (by omega)
theorem right_lead {s : List Int} {n : Nat} (h : rightB s = true) (hn : n ≤ 8) (hl : s.length ≤ n) : rightB (leadS s n) = true := by
  obtain ⟨-, h2, h3⟩ := right_def.1 h
  refine right_def.2 ⟨by rw [leadS_len hl]; exact hn, leadS_NN h2, ?_⟩
  have : ∀ k : Nat, nz (List.replicate k 1 ++ s) = nz s := by
    intro k
    induction k with
    | zero => rfl
    | succ k ih => rw [List.replicate_succ, List.cons_append, nz, ih]; simp
  rw [leadS, this]; exact h3

end Go.Proofs.Ytppdibblkaepjaa.Shape

namespace Go.Proofs.Ytppdibblkaepjaa.Shape
open Go.RowKit
set_option linter.unusedVariables false

/-- v is a list of ints of one's own. -/
def OI (w : World) (B : Nat) (v : Value) (xs : List Int) : Prop := w.ownsRow B 3 1 v xs.length (xs.map (Value.int .i64))
theorem OI.at {w : World} {B n : Nat} {va : Option Addr} {vc : Nat} {xs : List Int} (h : OI w B (.slice va n vc) xs) {j : Nat} (hj : j < xs.length) :
    ∃ g, va = some ⟨g, 0, none⟩ ∧ n = xs.length ∧ B ≤ g ∧ g < w.heap.size ∧ w.cell? ⟨g, j, none⟩ = some (.int .i64 xs[j]) ∧ w.frozen? ⟨g, j, none⟩ = false := by
  have h' := h
  rcases h'.2 with ⟨-, h0⟩ | ⟨g, cap, cur, hv, hg, hh, -⟩
  · omega
  · simp only [Value.slice.injEq] at hv
    obtain ⟨rfl, rfl, rfl⟩ := hv
    refine ⟨g, rfl, rfl, hg, lt_of_heap hh, ?_, h.frozenAt j⟩
    rw [h.cellAt j (by omega)]
    simp [hj]
theorem OI.set {w : World} {B g n vc : Nat} {xs : List Int} (h : OI w B (.slice (some ⟨g, 0, none⟩) n vc) xs) (j : Nat) (y : Int) : OI (w.setCell ⟨g, j, none⟩ (.int .i64 y)) B (.slice (some ⟨g, 0, none⟩) n vc) (xs.set j y) := by
  have hn : n = xs.length := by
    rcases h.2 with ⟨hv, h0⟩ | ⟨g', cap, cur, hv, hg, hh, -⟩
    · cases hv
    · simp only [Value.slice.injEq] at hv
      exact hv.2.1
  subst hn
  have h2 := (h.stored j (.int .i64 y)).1
  unfold OI
  rw [List.length_set, List.map_set]
  exact h2
theorem OI.below {w w' : World} {B : Nat} {v : Value} {xs : List Int} (h : OI w B v xs) (hb : Below w.heap.size w w') : OI w' B v xs := own_belowC h hb
theorem OI.mono {w : World} {B B' : Nat} {v : Value} {xs : List Int} (h : OI w B v xs) (hb : B' ≤ B) : OI w B' v xs := by
  refine ⟨h.1, ?_⟩
  rcases h.2 with h | ⟨g, cap, cur, hv, hg, hh, r⟩
  · exact Or.inl h
  · exact Or.inr ⟨g, cap, cur, hv, by omega, hh, r⟩
theorem OI.ints {w : World} {B n : Nat} {va : Option Addr} {vc : Nat} {xs : List Int} (h : OI w B (.slice va n vc) xs) (hb : ∀ x ∈ xs, -9223372036854775808 ≤ x ∧ x ≤ 9223372036854775807) : IntsOn (fun g => B ≤ g ∧ g < w.heap.size) w va vc xs := by
  obtain ⟨a, c, hv, hi⟩ := ints_of_row rfl h hb
  simp only [Value.slice.injEq] at hv
  obtain ⟨rfl, rfl, rfl⟩ := hv
  exact ⟨hi.1, fun hne ad e => ⟨hi.2 hne ad e, (ints_onlt hi.1).2 hne ad e⟩⟩

set_option maxHeartbeats 1000000 in
theorem leadO (a : Option Addr) (c : Nat) (xs : List Int) (n : Nat) (w : World) (h : IntsAt w a c xs) (hx : xs.length ≤ 1000) (hn : n ≤ 1000) :
    Calls Try.prog 43 #[.slice a xs.length c, .int .i64 (n : Int)] w fun e w' => ∃ a' c', e = .returned (.slice a' (leadS xs n).length c') ∧ OI w' w.heap.size (.slice a' (leadS xs n).length c') (leadS xs n) ∧ Below w.heap.size w w' := by
  obtain ⟨i0, hi, hz0, hz1, hz2⟩ := info_parts infoInt
  have hro := row_lit w
  have hb0 := below_new w (.cells #[] 3)
  have hll : (leadS xs n).length = (n - xs.length) + xs.length := by simp [leadS]
  have HL : Hid ((leadS xs n).map (Value.int .i64) = List.replicate (n - xs.length) (.int .i64 1) ++ xs.map (Value.int .i64)) := by unfold Hid; simp [leadS]
  generalize leadS xs n = ys at *
  obtain ⟨m, hm⟩ : ∃ m, xs.length = m := ⟨_, rfl⟩
  have HM : Hid (xs.length = m) := hm
  have hm1 : m ≤ 1000 := by omega
  rw [hm] at hll HL ⊢
  obtain ⟨y, hy⟩ : ∃ y, ys.length = y := ⟨_, rfl⟩
  have HY : Hid (ys.length = y) := hy
  rw [hy] at hll ⊢
  clear hm hy hx
  go_enter Try.func43, Try.ntmps43
  go_wp2_with fail
  go_loopw [5, 6] (fun v i wr => ∃ k : Nat, k ≤ n - m ∧ i = .int .i64 ((m + k : Nat) : Int) ∧ wr.ownsRow w.heap.size 3 1 v k (List.replicate k (.int .i64 1)) ∧ Below w.heap.size w wr) (fun _ i _ => n - (intOf i).toNat)
  case atStart => exact ⟨0, Nat.zero_le _, rfl, hro, hb0⟩
  case round =>
    obtain ⟨k, hk, rfl, ho, hb⟩ := hrel
    have hs := hb.size
    obtain ⟨q, hq⟩ : ∃ q, m + k = q := ⟨_, rfl⟩
    rw [hq]
    by_cases hlt : q < n
    · go_wp2_with (at_builtin; refine wpList_append_own _ rfl _ _ 22 rfl w.heap.size 3 i0 (.int .i64 0) 1 8 Try.underlying22 hi hz0 hz1 hz2 rfl (by decide) _ _ _ rfl (ho.alloc _) ⟨wr.heap.size, 0, none⟩ 1 1 [.int .i64 1] rfl rfl ?c1 ?c2 ?c3 ?c4 ?c5 ?_)
      case c1 =>
        intro j u hj
        match j, hj with
        | 0, hj => simp at hj; subst hj; simp [Addr.add]
      case c2 => intro u hu; simp at hu; subst hu; rfl
      case c3 => unfold maxLen; omega
      case c4 => omega
      case c5 => simp; omega
      intro v' w1 hown' hgrow _
      have hbel2 := (hb.alloc hs _).grown hgrow (by simp; omega) (fun j hj => ((ho.lt j hj).1))
      go_wp2
      go_roundw
      case rel => exact ⟨k + 1, by omega, by rw [← hq]; go_num, by rw [List.replicate_succ']; simpa using hown', hbel2⟩
      case measure => simp [intOf]; omega
    · obtain ⟨va, vc, rfl⟩ := row_slice ho
      go_wp2_with (at_builtin; refine wpList_ints_own rfl _ _ rfl w.heap.size _ _ _ rfl ho hs _ _ _ xs rfl HM.out.symm (h.below hb) (by have := HM.out; omega) ?_; intro v2 w2 ho2 hg2)
      have hkm : k + xs.length = y := by have := HM.out; omega
      have hkk : n - m = k := by omega
      rw [hkk] at HL
      rw [← HL.out, hkm] at ho2
      obtain ⟨va2, vc2, rfl⟩ := row_slice ho2
      go_ret
      exact ⟨va2, vc2, by rw [← HY.out]; rfl, by unfold OI; rw [HY.out]; exact ho2, Below.grown hb hg2 hs (fun q hq => (ho.lt q hq).1)⟩
end Go.Proofs.Ytppdibblkaepjaa.Shape

namespace Go.Proofs.Ytppdibblkaepjaa.Shape
open Go.RowKit
set_option linter.unusedVariables false

/-- Block X holds an array under work: kind, shape, and the elements of the first j cells, in a row of one's own; W1 is the world in which the work began. -/
def Gath (X B : Nat) (W1 wr : World) (k : Int) (sa : Option Addr) (ls sc : Nat) (cm : List Int) (l : List Arr) (j : Nat) : Prop :=
  ∃ na ln nc ia li ic, Quad wr X (.int .i64 k) (.slice sa ls sc) (.slice na ln nc) (.slice ia li ic) ∧
    ((k ≠ 3 ∧ ia = none ∧ li = 0 ∧ ic = 0 ∧ PutS X W1 wr B 3 1 (.slice none 0 0) (.slice na ln nc) (j * prN cm) ((((l.take j).map (partN k cm)).flatten).map (Value.int .i64)) ∧ (Value.slice na ln nc).ownBlock ≠ some X) ∨
     (k = 3 ∧ na = none ∧ ln = 0 ∧ nc = 0 ∧ ∃ qs, PutS X W1 wr B 26 4 (.slice none 0 0) (.slice ia li ic) (j * prN cm) qs ∧ (Value.slice ia li ic).ownBlock ≠ some X ∧ Quads (fun g => (Value.slice ia li ic).ownBlock ≠ some g ∧ W1.heap.size ≤ g) wr qs (((l.take j).map (partI cm)).flatten)))
theorem Gath.start {X B : Nat} {W1 : World} {k : Int} {sa : Option Addr} {ls sc : Nat} (q : Quad W1 X (.int .i64 k) (.slice sa ls sc) (.slice none 0 0) (.slice none 0 0)) (cm : List Int) (l : List Arr) : Gath X B W1 W1 k sa ls sc cm l 0 := by
  refine ⟨none, 0, 0, none, 0, 0, q, ?_⟩
  by_cases hk : k = 3
  · refine Or.inr ⟨hk, rfl, rfl, rfl, [], ?_, by simp [Value.ownBlock], by simp [Quads]⟩
    rw [Nat.zero_mul]
    exact PutS.refl (World.ownsRow_nil _ _ _ _)
  · refine Or.inl ⟨hk, rfl, rfl, rfl, ?_, by simp [Value.ownBlock]⟩
    rw [Nat.zero_mul]
    exact PutS.refl (World.ownsRow_nil _ _ _ _)
theorem Gath.quad {X B : Nat} {W1 wr : World} {k : Int} {sa : Option Addr} {ls sc : Nat} {cm : List Int} {l : List Arr} {j : Nat} (h : Gath X B W1 wr k sa ls sc cm l j) : ∃ na ln nc ia li ic, Quad wr X (.int .i64 k) (.slice sa ls sc) (.slice na ln nc) (.slice ia li ic) := by
  obtain ⟨na, ln, nc, ia, li, ic, q, -⟩ := h
  exact ⟨_, _, _, _, _, _, q⟩
theorem Gath.bel {X B : Nat} {W1 wr : World} {k : Int} {sa : Option Addr} {ls sc : Nat} {cm : List Int} {l : List Arr} {j : Nat} (h : Gath X B W1 wr k sa ls sc cm l j) : Below B W1 wr := by
  obtain ⟨na, ln, nc, ia, li, ic, q, ⟨-, -, -, -, h, -⟩ | ⟨-, -, -, -, qs, h, -⟩⟩ := h
  · exact h.bel
  · exact h.bel
/-- Lists that lie elsewhere stand. -/
theorem Gath.ints {X B : Nat} {W1 wr : World} {k : Int} {sa : Option Addr} {ls sc : Nat} {cm : List Int} {l : List Arr} {j : Nat} (h : Gath X B W1 wr k sa ls sc cm l j) {a : Option Addr} {c : Nat} {xs : List Int} (hi : IntsOn (fun g => g ≠ X) W1 a c xs) : IntsAt wr a c xs := by
  have e : IntsOn (fun g => (Value.slice none 0 0).ownBlock ≠ some g ∧ g ≠ X) W1 a c xs := hi.mono fun g hg => ⟨by simp [Value.ownBlock], hg⟩
  obtain ⟨na, ln, nc, ia, li, ic, q, ⟨-, -, -, -, h, -⟩ | ⟨-, -, -, -, qs, h, -⟩⟩ := h
  · exact (h.ints e).1
  · exact (h.ints e).1
theorem part_lens {k : Int} {cm : List Int} {l : List Arr} (hNN : NN cm) (hok : ∀ A ∈ l, Okay k cm A) (j : Nat) : (k ≠ 3 → (((l.take j).map (partN k cm)).flatten).length = (l.take j).length * prN cm) ∧ (k = 3 → (((l.take j).map (partI cm)).flatten).length = (l.take j).length * prN cm) := by
  refine ⟨fun hk => done_len _ _ _ fun A hA => ?_, fun hk => done_len _ _ _ fun A hA => ?_⟩
  · have o := hok A (List.mem_of_mem_take hA)
    rw [partN, padS_len _ _ _ _ (by rw [leadS_len o.len]) hNN (leadS_NN o.nn) (by rw [leadS_prN o.nn]; exact (o.nums hk).1)]
  · have o := hok A (List.mem_of_mem_take hA)
    rw [partI, padS_len _ _ _ _ (by rw [leadS_len o.len]) hNN (leadS_NN o.nn) (by rw [leadS_prN o.nn]; exact (o.items hk).1)]

/-- One cell more. -/
theorem Gath.step {X B : Nat} {W1 wr w2 : World} {k : Int} {sa : Option Addr} {ls sc : Nat} {cm : List Int} {l : List Arr} {j : Nat} (h : Gath X B W1 wr k sa ls sc cm l j) (hX : X < W1.heap.size) (hBX : B ≤ X) (hj : j < l.length)
    (hl : l.length ≤ 65536) (hx : rightE l[j] = 0) (hok : Okay k cm l[j]) (hR : Reach l[j]) (hk13 : 1 ≤ k ∧ k ≤ 3) (hrc : rightB cm = true) (htot : l.length * prN cm ≤ 65536) (b2 : Below wr.heap.size wr w2)
    {fa ta : Option Addr} {fc tc fl tl : Nat} {v2 : Value} (hv2 : ArrOn (fun g => g ≠ X) W1 v2 l[j]) (hfl : fl = (leadS l[j].shape cm.length).length) (htl : tl = cm.length) (hf : IntsOn (fun g => wr.heap.size ≤ g) w2 fa fc (leadS l[j].shape cm.length)) (ht : IntsOn (fun g => g ≠ X) W1 ta tc cm) :
    ∃ na ln nc ia li ic, Quad w2 X (.int .i64 k) (.slice sa ls sc) (.slice na ln nc) (.slice ia li ic) ∧
    Calls Try.prog 44 #[.agg #[.int .i64 k, .slice sa ls sc, .slice na ln nc, .slice ia li ic], v2, .slice fa fl fc, .slice ta tl tc, .int .i64 0] w2 fun e w3 => ∃ na' ln' nc' ia' li' ic', e = .returned (.agg #[.int .i64 k, .slice sa ls sc, .slice na' ln' nc', .slice ia' li' ic']) ∧ Quad w3 X (.int .i64 k) (.slice sa ls sc) (.slice na ln nc) (.slice ia li ic) ∧ Below B W1 w3 ∧ Gath X B W1 ((((w3.setCell ⟨X, 0, none⟩ (.int .i64 k)).setCell ⟨X, 1, none⟩ (.slice sa ls sc)).setCell ⟨X, 2, none⟩ (.slice na' ln' nc')).setCell ⟨X, 3, none⟩ (.slice ia' li' ic')) k sa ls sc cm l (j + 1) := by
  have hNN := hok.nn
  have hNc := (right_def.1 hrc).2.1
  have hlp := leadS_prN (n := cm.length) hNN
  have hll := leadS_len hok.len
  have hj1 : j * prN cm + prN cm ≤ 65536 := by
    have : (j + 1) * prN cm ≤ l.length * prN cm := Nat.mul_le_mul_right _ hj
    rw [Nat.succ_mul] at this
    omega
  have hs2 := b2.size
  have hnil : ∀ g, (Value.slice none 0 0).ownBlock ≠ some g := fun g => by simp [Value.ownBlock]
  have hrl : rightB (leadS l[j].shape cm.length) = true := right_lead (right_short hx) (right_def.1 hrc).1 hok.len
  obtain ⟨g1, g2, g3, g4, -, -⟩ := right_lens hx
  have hpA : prN l[j].shape ≤ 65536 := prN_le (right_short hx)
  have htk : l.take (j + 1) = l.take j ++ [l[j]] := List.take_succ_eq_append_getElem hj
  obtain ⟨na, ln, nc, ia, li, ic, q, ⟨hk, rfl, rfl, rfl, hP, hne⟩ | ⟨hk, rfl, rfl, rfl, qs, hP, hne, hq⟩⟩ := h
  · have hs1 := hP.bel.size
    have hP2 := hP.below b2 (by omega)
    have q2 := q.below b2
    refine ⟨na, ln, nc, none, 0, 0, q2, ?_⟩
    have hkA : l[j].kind ≠ 3 := by rw [hok.kind]; exact hk
    obtain ⟨n1, n2⟩ := g3 hkA
    have hA2 := hP2.arr (hv2.mono fun g hg => ⟨hnil g, hg⟩)
    have hT2 := hP2.ints (ht.mono fun g hg => ⟨hnil g, hg⟩)
    have hF2 : IntsOn (fun g => (Value.slice na ln nc).ownBlock ≠ some g) w2 fa fc (leadS l[j].shape cm.length) := hf.mono fun g hg e => by
      have := (hP.own.lt g e).2
      omega
    have hput := putN cm (leadS l[j].shape cm.length) w2 k sa ls sc na ln nc none 0 0 v2 l[j] fa fl fc ta tl tc 0 B (j * prN cm) _ (by rw [hok.kind]; omega) (hA2.mono fun g hg => hg.1) hfl htl hF2 (hT2.mono fun g hg => hg.1) hrc hrl hll.symm (by omega) (by omega) (by rw [hlp, n1]; omega) (by rw [n1]; omega) hP2.own
    refine hput.mono ?_
    rintro e w3 ⟨va, vl, vc, rfl, hP3⟩
    have hE : padS (fillZ l[j].kind) cm (leadS l[j].shape cm.length) ((l[j].nums.drop 0).take (prN (leadS l[j].shape cm.length))) = partN k cm l[j] := by
      rw [List.drop_zero, hlp, ← n1, List.take_length, hok.kind]; rfl
    rw [hE, ← Nat.succ_mul, ← List.map_append] at hP3
    have e : ((l.take j).map (partN k cm)).flatten ++ partN k cm l[j] = ((l.take (j + 1)).map (partN k cm)).flatten := by rw [htk, List.map_append, List.flatten_append]; simp only [List.map_cons, List.map_nil, List.flatten_cons, List.flatten_nil, List.append_nil]
    rw [e] at hP3
    have hP4 := hP2.trans hP3 (Or.inl hP2.bel.size)
    obtain ⟨f1, f2⟩ := hP3.far X (by omega) (by omega) hne
    have q3 := q2.keep f1
    refine ⟨_, _, _, _, _, _, rfl, q3, hP4.bel, _, _, _, _, _, _, (set4 q3 _ _ _ _).1, Or.inl ⟨hk, rfl, rfl, rfl, hP4.set4 (Or.inl rfl) hBX f2 _ _ _ _, f2⟩⟩
  · have hs1 := hP.bel.size
    have hP2 := hP.below b2 (by omega)
    have q2 := q.below b2
    refine ⟨none, 0, 0, ia, li, ic, q2, ?_⟩
    have hkA : l[j].kind = 3 := by rw [hok.kind]; exact hk
    obtain ⟨n1, n2⟩ := g4 hkA
    have hA2 := hP2.arr (hv2.mono fun g hg => ⟨hnil g, hg⟩)
    have hT2 := hP2.ints (ht.mono fun g hg => ⟨hnil g, hg⟩)
    have hF2 : IntsOn (fun g => (Value.slice ia li ic).ownBlock ≠ some g) w2 fa fc (leadS l[j].shape cm.length) := hf.mono fun g hg e => by
      have := (hP.own.lt g e).2
      omega
    have hq2 : Quads (fun g => (Value.slice ia li ic).ownBlock ≠ some g ∧ W1.heap.size ≤ g) w2 qs (((l.take j).map (partI cm)).flatten) := hq.keep fun g hg hlt => ⟨hg, fun o => World.cell?_of_block (b2.block g hlt)⟩
    have hput := putB cm (leadS l[j].shape cm.length) w2 k sa ls sc none 0 0 ia li ic v2 l[j] fa fl fc ta tl tc 0 B (j * prN cm) qs _ (fun g => W1.heap.size ≤ g) hkA (hA2.mono fun g hg => hg.1) hR hfl htl hF2 (hT2.mono fun g hg => hg.1) hrc hrl hll.symm (by omega) (by omega) (by rw [hlp, n1]; omega) (by rw [n1]; omega) hP2.own (fun g hg => by omega) hq2
    refine hput.mono ?_
    rintro e w3 ⟨va, vl, vc, qs', rfl, hP3, hq3⟩
    have hE : padS fillI cm (leadS l[j].shape cm.length) ((l[j].items.drop 0).take (prN (leadS l[j].shape cm.length))) = partI cm l[j] := by
      rw [List.drop_zero, hlp, ← n1, List.take_length]; rfl
    rw [← Nat.succ_mul] at hP3
    have e : ((l.take j).map (partI cm)).flatten ++ partI cm l[j] = ((l.take (j + 1)).map (partI cm)).flatten := by rw [htk, List.map_append, List.flatten_append]; simp only [List.map_cons, List.map_nil, List.flatten_cons, List.flatten_nil, List.append_nil]
    rw [hE, e] at hq3
    have hP4 := hP2.trans hP3 (Or.inl hP2.bel.size)
    obtain ⟨f1, f2⟩ := hP3.far X (by omega) (by omega) hne
    have q3 := q2.keep f1
    have hq4 : Quads (fun g => (Value.slice va vl vc).ownBlock ≠ some g ∧ W1.heap.size ≤ g) ((((w3.setCell ⟨X, 0, none⟩ (.int .i64 k)).setCell ⟨X, 1, none⟩ (.slice sa ls sc)).setCell ⟨X, 2, none⟩ (.slice none 0 0)).setCell ⟨X, 3, none⟩ (.slice va vl vc)) qs' (((l.take (j + 1)).map (partI cm)).flatten) :=
      hq3.keep fun g hg hlt => ⟨hg, fun o => World.cell?_of_block ((set4 q3 _ _ _ _).2 g (by omega))⟩
    refine ⟨_, _, _, _, _, _, rfl, q3, hP4.bel, _, _, _, _, _, _, (set4 q3 _ _ _ _).1, Or.inr ⟨hk, rfl, rfl, rfl, qs', hP4.set4 (Or.inl rfl) hBX f2 _ _ _ _, f2, hq4⟩⟩

/-- All cells are gathered. -/
theorem Gath.done {X B : Nat} {W1 wr : World} {k : Int} {sa : Option Addr} {ls sc : Nat} {sh cm : List Int} {l : List Arr} (h : Gath X B W1 wr k sa ls sc cm l l.length) (hls : ls = sh.length) (hX : X < W1.heap.size) (hBX : B ≤ X) (hk13 : 1 ≤ k ∧ k ≤ 3) (hrc : rightB cm = true) (hok : ∀ A ∈ l, Okay k cm A) (hnb : ∀ A ∈ l, ∀ x ∈ A.nums, -9223372036854775808 ≤ x ∧ x ≤ 9223372036854775807)
    (hs : IntsOn (fun g => B ≤ g ∧ g ≠ X) W1 sa sc sh) : ∃ na ln nc ia li ic, Quad wr X (.int .i64 k) (.slice sa ls sc) (.slice na ln nc) (.slice ia li ic) ∧ ArrOn (fun g => B ≤ g) wr (.agg #[.int .i64 k, .slice sa ls sc, .slice na ln nc, .slice ia li ic]) (asmA k sh cm l) := by
  subst hls
  have hNc := (right_def.1 hrc).2.1
  have hls := part_lens hNc hok l.length
  rw [List.take_length] at hls
  have hnil : ∀ g, (Value.slice none 0 0).ownBlock ≠ some g := fun g => by simp [Value.ownBlock]
  have hsO : IntsOn (fun g => B ≤ g ∧ g ≠ X ∧ g < W1.heap.size) W1 sa sc sh := ⟨hs.1, fun hne ad e => ⟨(hs.2 hne ad e).1, (hs.2 hne ad e).2, (ints_onlt hs.1).2 hne ad e⟩⟩
  obtain ⟨na, ln, nc, ia, li, ic, q, ⟨hk, rfl, rfl, rfl, hP, hne⟩ | ⟨hk, rfl, rfl, rfl, qs, hP, hne, hq⟩⟩ := h
  · refine ⟨_, _, _, _, _, _, q, ?_⟩
    rw [List.take_length] at hP
    obtain ⟨L, hL⟩ : ∃ L, (l.map (partN k cm)).flatten = L := ⟨_, rfl⟩
    have hlen := hls.1 hk
    have hbd : ∀ x ∈ L, -9223372036854775808 ≤ x ∧ x ≤ 9223372036854775807 := fun x hx => by
      rw [← hL] at hx
      obtain ⟨p, hp', hxp⟩ := List.mem_flatten.1 hx
      obtain ⟨A, hA, rfl⟩ := List.mem_map.1 hp'
      rcases padS_mem _ _ _ _ x hxp with h1 | h1
      · rw [h1]; unfold fillZ; split <;> decide
      · exact hnb A hA x h1
    have hsh : IntsOn (fun g => B ≤ g) wr sa sc sh := hsO.keep fun g hg _ => ⟨hg.1, fun o => World.cell?_of_block (hP.far g hg.2.2 hg.2.1 (hnil g)).1⟩
    rw [hL] at hP hlen
    obtain ⟨ra, rc, hv, hi⟩ := ints_of_own hlen.symm hP.own hbd
    simp only [Value.slice.injEq] at hv
    obtain ⟨rfl, rfl, rfl⟩ := hv
    have hA1 : asmA k sh cm l = .mk k sh L [] := by rw [asmA, if_neg hk, if_neg hk, hL]
    rw [hA1, ArrOn]
    exact ⟨sa, sc, na, nc, none, 0, rfl, by omega, hsh, hi, Nat.le_refl _, by decide, 0, 0, fun g => absurd rfl g, by rw [ArrsOn]; trivial⟩
  · refine ⟨_, _, _, _, _, _, q, ?_⟩
    rw [List.take_length] at hq
    obtain ⟨L, hL⟩ : ∃ L, (l.map (partI cm)).flatten = L := ⟨_, rfl⟩
    have hlen := hls.2 hk
    have hsh : IntsOn (fun g => B ≤ g) wr sa sc sh := hsO.keep fun g hg _ => ⟨hg.1, fun o => World.cell?_of_block (hP.far g hg.2.2 hg.2.1 (hnil g)).1⟩
    rw [hL] at hq hlen
    obtain ⟨rb, rfl, m1, m2, m3, m4⟩ := row_arrs (Pb := fun g => B ≤ g) hlen.symm hP.own (hq.keep (R := fun g => B ≤ g) fun g hg _ => ⟨by have := hg.2; omega, fun _ => rfl⟩) (fun g hg => hg)
    have hA1 : asmA k sh cm l = .mk k sh [] L := by rw [asmA, if_pos hk, if_pos hk, hL]
    rw [hA1, ArrOn]
    exact ⟨sa, sc, none, 0, ia, ic, rfl, by omega, hsh, ⟨ints_nil _, fun g => absurd rfl g⟩, m1, m2, rb, 0, m3, m4⟩
end Go.Proofs.Ytppdibblkaepjaa.Shape

namespace Go.Proofs.Ytppdibblkaepjaa.Shape
open Go.RowKit
set_option linter.unusedVariables false

theorem none_math {fr : List Int} {B : Arr} (hf : sizeS fr = 0) (hx : rightE B = 0) : outR (.mk B.kind (fr ++ B.shape) [] []) = filledS B.kind (fr ++ B.shape) := by
  have hk := (right_lens hx).2.2.2.2
  have hrf : rightB fr = true := Classical.byContradiction fun g => by
    rw [sizeS, if_neg g] at hf
    omega
  have hpf : prN fr = 0 := by
    rw [sizeS, if_pos hrf] at hf
    unfold prN; omega
  have hNf := (right_def.1 hrf).2.1
  have hNB := (right_def.1 (right_short hx)).2.1
  by_cases hr : rightB (fr ++ B.shape) = true
  · have hp : prN (fr ++ B.shape) = 0 := by rw [prN_append hNf hNB, hpf, Nat.zero_mul]
    have e : asmA B.kind (fr ++ B.shape) [] [] = .mk B.kind (fr ++ B.shape) [] [] := by rw [asmA]; simp
    have h := outR_asm (k := B.kind) (sh := fr ++ B.shape) (cm := []) (l := []) (by simp) (by simp) hk hr (by decide) (by rw [hp]; simp)
    rw [e] at h
    rw [h, filledS, if_pos hr, outA]
    have hw : ¬ 262144 < wt (.mk B.kind (fr ++ B.shape) [] []) := wt_low (Or.inl rfl) (by
      have : aSize (.mk B.kind (fr ++ B.shape) [] []) = 0 := by
        rcases (by omega : B.kind = 3 ∨ B.kind ≠ 3) with g | g
        · rw [g, aSize_box]; rfl
        · rw [aSize_num g hk.1 hk.2]; rfl
      omega)
    rw [if_neg hw]
    congr 1
    rcases (by omega : B.kind = 3 ∨ B.kind = 1 ∨ B.kind = 2) with g | g
    · rw [g, allF_box, hp]; rfl
    · rw [allF_num g, hp]; rfl
  · rw [filledS, if_neg hr, outR, if_neg]
    intro g
    exact hr (right_short g)

theorem app_shape {w : World} {base n m : Nat} {v : Value} {fr sh : List Int} (ho : w.ownsRow base 3 1 v (n + m) (fr.map (Value.int .i64) ++ sh.map (Value.int .i64))) (hn : n = fr.length) (hm : m = sh.length) (b1 : ∀ x ∈ fr, -9223372036854775808 ≤ x ∧ x ≤ 9223372036854775807) (b2 : ∀ x ∈ sh, -9223372036854775808 ≤ x ∧ x ≤ 9223372036854775807) :
    ∃ va L vc, v = .slice va L vc ∧ Hid (L = (fr ++ sh).length) ∧ IntsOn (fun g => base ≤ g) w va vc (fr ++ sh) := by
  rw [← List.map_append] at ho
  obtain ⟨a, c, rfl, hi⟩ := ints_of_own (xs := fr ++ sh) (by rw [List.length_append, hn, hm]) ho (fun x hx => by
    rcases List.mem_append.1 hx with h | h
    · exact b1 x h
    · exact b2 x h)
  exact ⟨_, _, _, rfl, rfl, hi⟩
theorem arr_empty {P : Nat → Prop} {w : World} {k : Int} {va : Option Addr} {L vc : Nat} {sh : List Int} (hk : 1 ≤ k ∧ k ≤ 3) (hL : L = sh.length) (hi : IntsOn P w va vc sh) : ArrOn P w (.agg #[.int .i64 k, .slice va L vc, .slice none 0 0, .slice none 0 0]) (.mk k sh [] []) := by
  subst hL
  rw [ArrOn]
  exact ⟨va, vc, none, 0, none, 0, rfl, by omega, hi, ⟨ints_nil _, fun g => absurd rfl g⟩, Nat.le_refl _, by decide, 0, 0, fun g => absurd rfl g, by rw [ArrsOn]; trivial⟩

set_option maxRecDepth 100000 in
set_option maxHeartbeats 4000000 in
theorem joinR0 (fa : Option Addr) (fc : Nat) (fr : List Int) (a : Option Addr) (c : Nat) (l : List Arr) (v : Value) (B : Arr) (w : World) (hf : IntsAt w fa fc fr) (hB : ArrAt w v B) (hl : l.length ≤ 9223372036854775807) (h0 : ¬ sizeS fr = (l.length : Int)) :
    Calls Try.prog 12 #[.slice fa fr.length fc, .slice a l.length c, v] w (GiveArrE (joinA fr l B).1 (joinA fr l B).2 w) := by
  have hB0 := hB
  obtain ⟨kl, sl, ll, cl, nl, ml, dl, il, jl, el, rfl⟩ : ∃ kk sa ls sc na ln nc ia li ic, v = .agg #[.int .i64 kk, .slice sa ls sc, .slice na ln nc, .slice ia li ic] := by
    obtain ⟨kk, sh, nu, it⟩ := B
    rw [ArrAt] at hB
    obtain ⟨sa, sc, na, nc, ia, ic, hv, -⟩ := hB
    exact ⟨_, _, _, _, _, _, _, _, _, _, hv⟩
  have bw := below_two w (.cells #[.int .i64 kl, .slice sl ll cl, .slice nl ml dl, .slice il jl el] 26) (.cells #[.int .i64 0, .slice none 0 0, .slice none 0 0, .slice none 0 0] 26)
  have q6 : Quad ((w.alloc (.cells #[.int .i64 kl, .slice sl ll cl, .slice nl ml dl, .slice il jl el] 26)).alloc (.cells #[.int .i64 0, .slice none 0 0, .slice none 0 0, .slice none 0 0] 26)) (w.heap.size + 1) (.int .i64 0) (.slice none 0 0) (.slice none 0 0) (.slice none 0 0) := by simpa using Quad.new (w.alloc (.cells #[.int .i64 kl, .slice sl ll cl, .slice nl ml dl, .slice il jl el] 26)) (.int .i64 0) (.slice none 0 0) (.slice none 0 0) (.slice none 0 0)
  have hf1 := hf.below bw
  have hfl := hf.len
  have HP : Hid (joinA fr l B = (zeroA, 1)) := by unfold Hid; rw [joinA, if_neg h0]
  obtain ⟨W0, hW0⟩ : ∃ W0, (w.alloc (.cells #[.int .i64 kl, .slice sl ll cl, .slice nl ml dl, .slice il jl el] 26)).alloc (.cells #[.int .i64 0, .slice none 0 0, .slice none 0 0, .slice none 0 0] 26) = W0 := ⟨_, rfl⟩
  rw [hW0] at bw q6 hf1
  obtain ⟨s0, s1, s2, s3, s4, s5, s6, s7⟩ := q6.cells
  have T := fun W (g : IntsAt W fa fc fr) => refRightR fa fc fr W g
  have S := fun W (g : IntsAt W fa fc fr) => refSizeR fa fc fr W g
  obtain ⟨y, hy⟩ : ∃ y, rightB fr = y := ⟨_, rfl⟩
  obtain ⟨sz, hsz⟩ : ∃ s, sizeS fr = s := ⟨_, rfl⟩
  rw [hy] at T
  rw [hsz] at S h0
  have e1 : (sz != (l.length : Int)) = true := by simpa using h0
  have G := give_set4 (w := w) (Nat.le_succ w.heap.size) q6 (zero_on _ _) bw
  obtain ⟨QW, -⟩ := set4 q6 (.int .i64 0) (.slice none 0 0) (.slice none 0 0) (.slice none 0 0)
  cases y with
  | false =>
    go_enter Try.func12, Try.ntmps12
    go_wp2_with (go_at_call 40; refine (T _ hf1).mono ?_; rintro e w1' ⟨rfl, rfl⟩)
    generalize ((((W0.setCell ⟨w.heap.size + 1, 0, none⟩ (.int .i64 0)).setCell ⟨w.heap.size + 1, 1, none⟩ (.slice none 0 0)).setCell ⟨w.heap.size + 1, 2, none⟩ (.slice none 0 0)).setCell ⟨w.heap.size + 1, 3, none⟩ (.slice none 0 0)) = WW at QW G ⊢
    obtain ⟨z0, z1, z2, z3, -⟩ := QW.cells
    exact bodyPost_ret (v := .tuple #[.agg #[.int .i64 0, .slice none 0 0, .slice none 0 0, .slice none 0 0], .int .i64 1]) (by simp [results, Try.results12, go_sem, z0, z1, z2, z3]) rfl (by rw [HP.out]; exact (GiveNewE.mk G).arr)
  | true =>
    go_enter Try.func12, Try.ntmps12
    go_wp2_with (first
      | (go_at_call 40; refine (T _ hf1).mono ?_; rintro e w1' ⟨rfl, rfl⟩)
      | (go_at_call 41; refine (S _ hf1).mono ?_; rintro e w1' ⟨rfl, rfl⟩))
    generalize ((((W0.setCell ⟨w.heap.size + 1, 0, none⟩ (.int .i64 0)).setCell ⟨w.heap.size + 1, 1, none⟩ (.slice none 0 0)).setCell ⟨w.heap.size + 1, 2, none⟩ (.slice none 0 0)).setCell ⟨w.heap.size + 1, 3, none⟩ (.slice none 0 0)) = WW at QW G ⊢
    obtain ⟨z0, z1, z2, z3, -⟩ := QW.cells
    exact bodyPost_ret (v := .tuple #[.agg #[.int .i64 0, .slice none 0 0, .slice none 0 0, .slice none 0 0], .int .i64 1]) (by simp [results, Try.results12, go_sem, z0, z1, z2, z3]) rfl (by rw [HP.out]; exact (GiveNewE.mk G).arr)

set_option maxRecDepth 100000 in
set_option maxHeartbeats 4000000 in
theorem joinR1 (fa : Option Addr) (fc : Nat) (fr : List Int) (a : Option Addr) (c : Nat) (v : Value) (B : Arr) (w : World) (hf : IntsAt w fa fc fr) (hB : ArrAt w v B) (h0 : sizeS fr = 0) :
    Calls Try.prog 12 #[.slice fa fr.length fc, .slice a 0 c, v] w (GiveArrE (joinA fr [] B).1 (joinA fr [] B).2 w) := by
  have hB0 := hB
  obtain ⟨kl, sl, cl, nl, ml, dl, il, jl, el, rfl, hkl, hsl⟩ : ∃ kk sa sc na ln nc ia li ic, v = .agg #[.int .i64 kk, .slice sa B.shape.length sc, .slice na ln nc, .slice ia li ic] ∧ kk = B.kind ∧ IntsAt w sa sc B.shape := by
    obtain ⟨kk, sh, nu, it⟩ := B
    rw [ArrAt] at hB
    obtain ⟨sa, sc, na, nc, ia, ic, hv, -, hs, -⟩ := hB
    exact ⟨_, _, _, _, _, _, _, _, _, hv, rfl, hs⟩
  have bw := below_two w (.cells #[.int .i64 kl, .slice sl B.shape.length cl, .slice nl ml dl, .slice il jl el] 26) (.cells #[.int .i64 0, .slice none 0 0, .slice none 0 0, .slice none 0 0] 26)
  have q5 := (Quad.new w (.int .i64 kl) (.slice sl B.shape.length cl) (.slice nl ml dl) (.slice il jl el)).below (below_new _ (.cells #[.int .i64 0, .slice none 0 0, .slice none 0 0, .slice none 0 0] 26))
  have q6 : Quad ((w.alloc (.cells #[.int .i64 kl, .slice sl B.shape.length cl, .slice nl ml dl, .slice il jl el] 26)).alloc (.cells #[.int .i64 0, .slice none 0 0, .slice none 0 0, .slice none 0 0] 26)) (w.heap.size + 1) (.int .i64 0) (.slice none 0 0) (.slice none 0 0) (.slice none 0 0) := by simpa using Quad.new (w.alloc (.cells #[.int .i64 kl, .slice sl B.shape.length cl, .slice nl ml dl, .slice il jl el] 26)) (.int .i64 0) (.slice none 0 0) (.slice none 0 0) (.slice none 0 0)
  have hf1 := hf.below bw
  have hB1 := hB0.below bw
  have hsl1 := hsl.below bw
  have hfl := hf.len
  have hrf : rightB fr = true := Classical.byContradiction fun g => by
    rw [sizeS, if_neg g] at h0
    omega
  have hf8 := (right_def.1 hrf).1
  have bfr := hf.2.2.1
  have HP1 : Hid (¬ rightE B = 0 → joinA fr [] B = (zeroA, 1)) := fun h => by rw [joinA, if_pos (by simpa using h0), if_pos (show ([] : List Arr).length = 0 from rfl), joinNoneS, if_neg h]
  have HP2 : Hid (rightE B = 0 → joinA fr [] B = outR (.mk kl (fr ++ B.shape) [] [])) := fun h => by rw [hkl, none_math h0 h, joinA, if_pos (by simpa using h0), if_pos (show ([] : List Arr).length = 0 from rfl), joinNoneS, if_pos h]
  obtain ⟨W0, hW0⟩ : ∃ W0, (w.alloc (.cells #[.int .i64 kl, .slice sl B.shape.length cl, .slice nl ml dl, .slice il jl el] 26)).alloc (.cells #[.int .i64 0, .slice none 0 0, .slice none 0 0, .slice none 0 0] 26) = W0 := ⟨_, rfl⟩
  rw [hW0] at bw q5 q6 hf1 hB1 hsl1
  have T := fun W (g : IntsAt W fa fc fr) => refRightR fa fc fr W g
  have S := fun W (g : IntsAt W fa fc fr) => refSizeR fa fc fr W g
  have R := fun v' w' (g : ArrAt w' v' B) => rightR3 v' B w' g
  rw [hrf] at T
  rw [h0] at S
  obtain ⟨x, hx⟩ : ∃ x, rightE B = x := ⟨_, rfl⟩
  rw [hx] at R
  by_cases hx0 : x = 0
  · have e1 : (x != 0) = false := by simpa using hx0
    have h8 := (right_def.1 (right_short (hx.trans hx0))).1
    have hPA := HP2.out (hx.trans hx0)
    have hk13 := (right_lens (hx.trans hx0)).2.2.2.2
    rw [← hkl] at hk13
    have CK := fun sa ls sc w' (g : ArrOn (fun g => w.heap.size + 1 < g) w' (.agg #[.int .i64 kl, .slice sa ls sc, .slice none 0 0, .slice none 0 0]) (.mk kl (fr ++ B.shape) [] [])) => checkedRR kl sa ls sc _ _ _ _ _ _ _ w' g
    obtain ⟨PA, er, hPE⟩ : ∃ PA er, outR (.mk kl (fr ++ B.shape) [] []) = (PA, er) := ⟨_, _, rfl⟩
    rw [hPE] at CK
    have HPA : Hid (joinA fr [] B = (PA, er)) := hPA.trans hPE
    clear HP1 HP2 hPA hPE hkl h0
    go_enter Try.func12, Try.ntmps12
    go_wp2_with (first
      | (go_at_call 40; refine (T _ hf1).mono ?_; rintro e w1' ⟨rfl, rfl⟩)
      | (go_at_call 41; refine (S _ hf1).mono ?_; rintro e w1' ⟨rfl, rfl⟩))
    obtain ⟨p0, p1, p2, p3, -⟩ := q5.cells
    go_loopw [8, 9] (fun ax i wr => ax = .int .i64 0 ∧ i = .int .i64 0 ∧ wr = W0) (fun _ _ _ => 0)
    case atStart => exact ⟨rfl, rfl, rfl⟩
    case round =>
      obtain ⟨rfl, rfl, rfl⟩ := hrel
      go_wp2_with (go_at_call 20; refine (R _ _ hB1).mono ?_; rintro e w1 ⟨rfl, hb1⟩)
      have q5w := q5.below hb1
      have q6w := q6.below hb1
      have hfw := hf1.below hb1
      have hsw := hsl1.below hb1
      have bB := hsl.2.2.1
      have hs6 := q6w.lt
      clear hf1 hsl1 hsl hB hB0 hB1 R T S p0 p1 p2 p3
      obtain ⟨p0, p1, p2, p3, -⟩ := q5w.cells
      have P0h : Hid (w1.cell? ⟨w.heap.size, 0, none⟩ = some (.int .i64 kl) ∧ w1.cell? ⟨w.heap.size, 1, none⟩ = some (.slice sl B.shape.length cl)) := ⟨p0, p1⟩
      have H0 : ∀ w', Below w1.heap.size w1 w' → w'.cell? ⟨w.heap.size, 0, none⟩ = some (.int .i64 kl) ∧ w'.cell? ⟨w.heap.size, 1, none⟩ = some (.slice sl B.shape.length cl) := fun w' hb => ⟨(hb.cell (cell_lt P0h.out.1)).trans P0h.out.1, (hb.cell (cell_lt P0h.out.2)).trans P0h.out.2⟩
      have r1 := rowlitB w1 w1.heap.size (Nat.le_refl _)
      have h8r : (0 + fr.length) * 8 ≤ 140737488351232 := by rw [Nat.zero_add]; exact Nat.le_trans (Nat.mul_le_mul_right 8 hf8) (by decide)
      have h8s : (fr.length + B.shape.length) * 8 ≤ 140737488351232 := Nat.le_trans (Nat.mul_le_mul_right 8 (Nat.add_le_add hf8 h8)) (by decide)
      go_region_held_law (fun w' => w'.cell? ⟨w.heap.size, 0, none⟩ = some (.int .i64 kl) ∧ w'.cell? ⟨w.heap.size, 1, none⟩ = some (.slice sl B.shape.length cl))
        (first
          | go_keep
          | exact H0 _ bg
          | exact H0 _ bg3
          | exact H0 _ (Below.then bg3 hb6)
          | exact H0 _ (by go_grown)
          | exact H0 _ (Below.then bg3 (by go_grown))
          | exact H0 _ (Below.then bg (by go_grown)))
        (((first
          | (refine step_ints_own rfl _ _ rfl w1.heap.size fr.length v2 _ (by rfl) (by exact ho2) (by exact S3) _ _ _ B.shape (by rfl) rfl (hsw.below bg) h8s ?_; intro v3 w4 ho3 hg3; (have bg3 : Below w1.heap.size w1 w4 := Below.grown bg hg3 S3 (fun q hq => (ho2.lt q hq).1)); (obtain ⟨va, L, vc, rfl, hL, hi⟩ := app_shape ho3 rfl rfl bfr bB))
          | (refine step_ints_own rfl _ _ rfl w1.heap.size 0 (.slice (some ⟨w1.heap.size, 0, none⟩) 0 0) [] (by rfl) (by exact r1) (by simp <;> omega) _ _ _ fr (by rfl) rfl (hfw.below (by go_grown)) h8r ?_; intro v2 w3 ho2 hg2; (have bg : Below w1.heap.size w1 w3 := Below.grown (by go_grown) hg2 (by simp <;> omega) (fun q hq => by have e := Option.some.inj hq; rw [← e]; first | exact Nat.le_refl _ | exact Nat.le_succ _)); (simp only [Nat.zero_add, List.nil_append] at ho2); (have S3 := bg.size))
          | (go_at_call 42; (with_reducible refine (CK _ _ _ _ (by exact arr_empty hk13 hL.out (hi.mono fun g hg => Nat.lt_of_lt_of_le hs6 hg))).mono ?_); rintro e w6 ⟨kr, sar, lsr, scr, nar, lnr, ncr, iar, lir, icr, rfl, hO, hb6⟩; (obtain ⟨s0, s1, s2, s3, s4, s5, s6, s7⟩ := ((q6w.below bg3).below hb6).cells)))))
      all_goals go_wp2_with fail
      have q3 := (q6w.below bg3).below hb6
      have G := give_set4 (w := w) (Nat.le_succ w.heap.size) q3 hO (Below.then (Below.then (Below.then bw hb1) bg3) hb6)
      obtain ⟨QW, -⟩ := set4 q3 (.int .i64 kr) (.slice sar lsr scr) (.slice nar lnr ncr) (.slice iar lir icr)
      generalize ((((w6.setCell ⟨w.heap.size + 1, 0, none⟩ (.int .i64 kr)).setCell ⟨w.heap.size + 1, 1, none⟩ (.slice sar lsr scr)).setCell ⟨w.heap.size + 1, 2, none⟩ (.slice nar lnr ncr)).setCell ⟨w.heap.size + 1, 3, none⟩ (.slice iar lir icr)) = WW at QW G ⊢
      obtain ⟨z0, z1, z2, z3, -⟩ := QW.cells
      exact bodyPost_ret (v := .tuple #[.agg #[.int .i64 kr, .slice sar lsr scr, .slice nar lnr ncr, .slice iar lir icr], .int .i64 er]) (by simp [results, Try.results12, go_sem, z0, z1, z2, z3]) rfl (by rw [HPA.out]; exact (GiveNewE.mk G).arr)
  · have e1 : (x != 0) = true := by simpa using hx0
    have HP : Hid (joinA fr [] B = (zeroA, 1)) := HP1.out (by rw [hx]; exact hx0)
    clear HP1 HP2 hkl h0
    go_enter Try.func12, Try.ntmps12
    go_wp2_with (first
      | (go_at_call 40; refine (T _ hf1).mono ?_; rintro e w1' ⟨rfl, rfl⟩)
      | (go_at_call 41; refine (S _ hf1).mono ?_; rintro e w1' ⟨rfl, rfl⟩))
    obtain ⟨p0, p1, p2, p3, -⟩ := q5.cells
    go_loopw [8, 9] (fun ax i wr => ax = .int .i64 0 ∧ i = .int .i64 0 ∧ wr = W0) (fun _ _ _ => 0)
    case atStart => exact ⟨rfl, rfl, rfl⟩
    case round =>
      obtain ⟨rfl, rfl, rfl⟩ := hrel
      go_wp2_with (go_at_call 20; refine (R _ _ hB1).mono ?_; rintro e w1 ⟨rfl, hb1⟩; (obtain ⟨s0, s1, s2, s3, s4, s5, s6, s7⟩ := (q6.below hb1).cells))
      have G := give_set4 (w := w) (Nat.le_succ w.heap.size) (q6.below hb1) (zero_on _ _) (Below.then bw hb1)
      obtain ⟨QW, -⟩ := set4 (q6.below hb1) (.int .i64 0) (.slice none 0 0) (.slice none 0 0) (.slice none 0 0)
      generalize ((((w1.setCell ⟨w.heap.size + 1, 0, none⟩ (.int .i64 0)).setCell ⟨w.heap.size + 1, 1, none⟩ (.slice none 0 0)).setCell ⟨w.heap.size + 1, 2, none⟩ (.slice none 0 0)).setCell ⟨w.heap.size + 1, 3, none⟩ (.slice none 0 0)) = WW at QW G ⊢
      obtain ⟨z0, z1, z2, z3, -⟩ := QW.cells
      exact bodyPost_ret (v := .tuple #[.agg #[.int .i64 0, .slice none 0 0, .slice none 0 0, .slice none 0 0], .int .i64 1]) (by simp [results, Try.results12, go_sem, z0, z1, z2, z3]) rfl (by rw [HP.out]; exact (GiveNewE.mk G).arr)
end Go.Proofs.Ytppdibblkaepjaa.Shape

namespace Go.Proofs.Ytppdibblkaepjaa.Shape
open Go.RowKit
set_option linter.unusedVariables false

/-- The law's count of a shape's elements: no product beyond an int. -/
theorem pads_num (N : Nat) (hN : N ≤ 2000) (y : Int) : ∃ M P : Nat, (if 2001 < if y < 1 then 1 else y then 2001 else if y < 1 then 1 else y) = (M : Int) ∧ (N : Int) * (M : Int) = (P : Int) ∧ wrap64 (P : Int) = (P : Int) := by
  obtain ⟨M, hM, hM2⟩ : ∃ M : Nat, (if 2001 < if y < 1 then 1 else y then 2001 else if y < 1 then 1 else y) = (M : Int) ∧ M ≤ 2001 := by
    by_cases h1 : y < 1
    · exact ⟨1, by simp [h1], by decide⟩
    · by_cases h2 : 2001 < y
      · exact ⟨2001, by simp [h1, h2], by decide⟩
      · exact ⟨y.toNat, by simp only [h1, h2, if_false]; omega, by omega⟩
  refine ⟨M, N * M, hM, by simp, IntWalk.wrap64_in _ ?_⟩
  have : N * M ≤ 2000 * 2001 := Nat.mul_le_mul hN hM2
  omega
theorem natbdL {n m : Nat} (h : n ≤ m) (hm : m ≤ 10000000) : -9223372036854775808 ≤ (n : Int) ∧ (n : Int) ≤ 9223372036854775807 := by omega
/-- A cell of a list of arrays: the lengths of its lists. -/
theorem cell_parts {w : World} {b : Nat} {l : List Arr} (h : ArrsAt w b 0 l) {j : Nat} (hj : j < l.length) : ∃ (y0 y1 : Value) (aN : Option Addr) (dN : Nat) (aI : Option Addr) (dI : Nat), w.cell? ⟨b, j * 4 + 2, none⟩ = some (.slice aN l[j].nums.length dN) ∧ w.cell? ⟨b, j * 4 + 3, none⟩ = some (.slice aI l[j].items.length dI) := by
  obtain ⟨c0, c1, c2, c3, ⟨-, -, g2, g3⟩, hA⟩ := h.at hj
  rw [Nat.zero_add] at g2 g3
  generalize l[j] = X at hA ⊢
  obtain ⟨k, sh, nu, it⟩ := X
  rw [ArrAt] at hA
  obtain ⟨sa, sc, na, nc, ia, ic, hv, -⟩ := hA
  simp only [Value.agg.injEq, Array.mk.injEq, List.cons.injEq, and_true] at hv
  obtain ⟨-, -, rfl, rfl⟩ := hv
  exact ⟨c0, c1, na, nc, ia, ic, g2, g3⟩
theorem back_sum {l : List Arr} {s n j q : Nat} (h : ∀ C ∈ l, C.nums.length + C.items.length = s) (ht : l.length * s = n) (hn : n ≤ 65536) (hj : j < l.length) (hq : Hid (q = j * s)) : ∃ q2 : Nat, Hid (q2 = (j + 1) * s) ∧ (l[j].nums.length : Int) + (l[j].items.length : Int) = (s : Int) ∧ (q : Int) + (s : Int) = (q2 : Int) ∧ wrap64 (s : Int) = (s : Int) ∧ wrap64 (q2 : Int) = (q2 : Int) ∧ True := by
  have h1 := h _ (List.getElem_mem hj)
  have hq' := hq.out
  have h2 : (j + 1) * s ≤ l.length * s := Nat.mul_le_mul_right _ hj
  have h3 : s ≤ (j + 1) * s := by rw [Nat.succ_mul]; omega
  refine ⟨(j + 1) * s, rfl, by omega, by rw [hq', Nat.succ_mul]; omega, small_wrap (by omega), small_wrap (by omega), trivial⟩
theorem GiveArrE.formL {A : Arr} {er : Int} {w w' : World} {e : Ending} (h : GiveArrE A er w e w') : ∃ k sa ls sc na ln nc ia li ic, e = .returned (.tuple #[.agg #[.int .i64 k, .slice sa ls sc, .slice na ln nc, .slice ia li ic], .int .i64 er]) ∧
    ArrAt w' (.agg #[.int .i64 k, .slice sa ls sc, .slice na ln nc, .slice ia li ic]) A ∧ Below w.heap.size w w' := by
  obtain ⟨v, rfl, hA, hb⟩ := h
  have hA' := hA
  obtain ⟨k, sh, nu, it⟩ := A
  rw [ArrAt] at hA
  obtain ⟨sa, sc, na, nc, ia, ic, rfl, -⟩ := hA
  exact ⟨k, sa, _, sc, na, _, nc, ia, _, ic, rfl, hA', hb⟩
end Go.Proofs.Ytppdibblkaepjaa.Shape
