/-
  Layer 3: the program's Weight: its recursive closure and the call.
-/
import Derived.Test.YtkjbccodahleoaaBd8
import Derived.Test.YtkjbccodahleoaaBd12
namespace Go.Proofs.Ytkjbccodahleoaa.Shape
open Go.RowKit

mutual
/-- The number of elements including those of the items, with nothing cut off. -/
def tw : Arr → Int
  | .mk k sh nu it => (aSize (.mk k sh nu it) : Int) + (if k = 3 then twL it else 0)
def twL : List Arr → Int
  | [] => 0
  | A :: r => tw A + twL r
end
mutual
theorem tw_nn : ∀ A, 0 ≤ tw A
  | .mk k sh nu it => by
    have := twL_nn it
    rw [tw]; split <;> omega
theorem twL_nn : ∀ l, 0 ≤ twL l
  | [] => by rw [twL]; omega
  | A :: r => by
    have := tw_nn A
    have := twL_nn r
    rw [twL]; omega
end
mutual
/-- What is cut off in the middle does not matter. -/
theorem wt_tw : ∀ A, wt A = min (tw A) 262145
  | .mk k sh nu it => by
    have h := sumW_tw it
    have h1 := twL_nn it
    have h2 := sumW_nn it
    rw [wt, tw]
    split
    · have : min (sumW it) 262145 = min (twL it) 262145 := h
      omega
    · rfl
theorem sumW_tw : ∀ l, min (sumW l) 262145 = min (twL l) 262145
  | [] => by rw [sumW, twL]
  | A :: r => by
    have h1 := wt_tw A
    have h2 := sumW_tw r
    have h3 := tw_nn A
    have h4 := twL_nn r
    have h5 := sumW_nn r
    rw [sumW, twL]; omega
end
mutual
/-- An array lies in blocks that there are. -/
theorem ArrAt.on {w : World} : ∀ {v : Value} {A : Arr}, ArrAt w v A → ArrOn (fun g => g < w.heap.size) w v A
  | _, .mk k sh nu it, h => by
    rw [ArrAt] at h
    rw [ArrOn]
    obtain ⟨sa, sc, na, nc, ia, ic, hv, hk, hs, hn, h1, h2, b, off, ha, hc⟩ := h
    refine ⟨sa, sc, na, nc, ia, ic, hv, hk, ⟨hs, ?_⟩, ⟨hn, ?_⟩, h1, h2, b, off, fun g => ⟨ha g, ?_⟩, ArrsAt.on hc⟩
    · intro hne ad e
      obtain ⟨-, -, -, b', off', ha', hc'⟩ := hs
      rw [ha' hne] at e
      cases e
      exact cell_lt (hc' 0 (List.length_pos_iff.2 hne))
    · intro hne ad e
      obtain ⟨-, -, -, b', off', ha', hc'⟩ := hn
      rw [ha' hne] at e
      cases e
      exact cell_lt (hc' 0 (List.length_pos_iff.2 hne))
    · cases it with
      | nil => exact absurd rfl g
      | cons A r =>
        rw [ArrsAt] at hc
        obtain ⟨⟨c0, _, _, _, ⟨e, -⟩, -⟩, -⟩ := hc
        exact cell_lt e
theorem ArrsAt.on {w : World} : ∀ {b off : Nat} {l : List Arr}, ArrsAt w b off l → ArrsOn (fun g => g < w.heap.size) w b off l
  | _, _, [], _ => by rw [ArrsOn]; trivial
  | b, off, A :: r, h => by
    rw [ArrsAt] at h
    rw [ArrsOn]
    obtain ⟨⟨c0, c1, c2, c3, hc, hA⟩, hr⟩ := h
    exact ⟨⟨c0, c1, c2, c3, hc, ArrAt.on hA⟩, ArrsAt.on hr⟩
end
theorem ArrsOn.at' {P : Nat → Prop} {w : World} : ∀ {l : List Arr} {b off : Nat}, ArrsOn P w b off l → ∀ {k : Nat} (hk : k < l.length), ∃ c0 c1 c2 c3 : Value,
    (w.cell? ⟨b, off + k * 4, none⟩ = some c0 ∧ w.cell? ⟨b, off + k * 4 + 1, none⟩ = some c1 ∧ w.cell? ⟨b, off + k * 4 + 2, none⟩ = some c2 ∧ w.cell? ⟨b, off + k * 4 + 3, none⟩ = some c3) ∧ ArrOn P w (.agg #[c0, c1, c2, c3]) l[k]
  | [], _, _, _, k, hk => absurd hk (by simp)
  | A :: r, b, off, h, k, hk => by
    rw [ArrsOn] at h
    cases k with
    | zero => simpa using h.1
    | succ k =>
      have := ArrsOn.at' h.2 (k := k) (by simpa using hk)
      have e : off + 4 + k * 4 = off + (k + 1) * 4 := by omega
      rw [e] at this
      simpa using this

/-- All memory but block t is kept. -/
structure But (t : Nat) (w w' : World) : Prop where
  os : w'.os = w.os
  tape : w'.tape = w.tape
  output : w'.output = w.output
  size : w.heap.size ≤ w'.heap.size
  block : ∀ k, k ≠ t → k < w.heap.size → w'.heap[k]? = w.heap[k]?
theorem But.refl (t : Nat) (w : World) : But t w w := ⟨rfl, rfl, rfl, Nat.le_refl _, fun _ _ _ => rfl⟩
theorem But.trans {t : Nat} {a b c : World} (h : But t a b) (k : But t b c) : But t a c :=
  ⟨k.os.trans h.os, k.tape.trans h.tape, k.output.trans h.output, Nat.le_trans h.size k.size, fun g hg hl => (k.block g hg (Nat.lt_of_lt_of_le hl h.size)).trans (h.block g hg hl)⟩
theorem But.of_below {t : Nat} {w w' : World} (h : Below w.heap.size w w') : But t w w' := ⟨h.os, h.tape, h.output, h.size, fun g _ hl => h.block g hl⟩
theorem But.set {t o : Nat} (w : World) (u : Value) : But t w (w.setCell ⟨t, o, none⟩ u) :=
  have b : Below t w (w.setCell ⟨t, o, none⟩ u) := Below.setCell (Below.refl _ _) (p := ⟨t, o, none⟩) (Nat.le_refl _) u
  ⟨b.os, b.tape, b.output, b.size, fun g hg _ => set_other w t o g u hg⟩
theorem But.below {t B : Nat} {w w' : World} (h : But t w w') (hB : B ≤ t) (hw : B ≤ w.heap.size) : Below B w w' := ⟨h.os, h.tape, h.output, h.size, fun g hg => h.block g (by omega) (by omega)⟩
theorem But.on {t : Nat} {w w' : World} (h : But t w w') {v : Value} {A : Arr} (hA : ArrOn (fun g => g ≠ t) w v A) : ArrOn (fun g => g ≠ t) w' v A :=
  hA.keep fun g hg hl => ⟨hg, fun _ => World.cell?_of_block (h.block g hg hl)⟩
theorem But.ons {t b off : Nat} {w w' : World} {l : List Arr} (h : But t w w') (hb : l ≠ [] → b ≠ t) (hA : ArrsOn (fun g => g ≠ t) w b off l) : ArrsOn (fun g => g ≠ t) w' b off l := by
  cases l with
  | nil => rw [ArrsOn]; trivial
  | cons A r => exact hA.keep (fun g hg hl => ⟨hg, fun _ => World.cell?_of_block (h.block g hg hl)⟩) (hb (by simp))
theorem But.cell {t : Nat} {w w' : World} (h : But t w w') {b o : Nat} {c : Value} (hb : b ≠ t) (hc : w.cell? ⟨b, o, none⟩ = some c) : w'.cell? ⟨b, o, none⟩ = some c :=
  (World.cell?_of_block (h.block b hb (cell_lt hc))).trans hc
/-- One number in a block, not frozen. -/
def One (w : World) (t : Nat) (T : Int) : Prop := w.heap[t]? = some (.cells #[.int .i64 T] 3 (0, 0))
theorem One.cells {w : World} {t : Nat} {T : Int} (h : One w t T) : w.cell? ⟨t, 0, none⟩ = some (.int .i64 T) ∧ w.frozen? ⟨t, 0, none⟩ = false := by
  unfold One at h
  refine ⟨?_, ?_⟩ <;> simp [World.cell?, World.frozen?, h]
theorem One.below {w w' : World} {t : Nat} {T : Int} (h : One w t T) (hb : Below w.heap.size w w') : One w' t T := (hb.block t (cell_lt h.cells.1)).trans h
theorem One.set {w : World} {t : Nat} {T : Int} (h : One w t T) (U : Int) : One (w.setCell ⟨t, 0, none⟩ (.int .i64 U)) t U := by
  have hlt := cell_lt h.cells.1
  have h' : w.heap[t] = .cells #[.int .i64 T] 3 (0, 0) := by unfold One at h; simpa [Array.getElem?_eq_getElem hlt] using h
  show (w.heap.modify t _)[t]? = _
  rw [Array.getElem?_eq_getElem (by simpa using hlt), Array.getElem_modify_self, h']
  rfl
theorem One.new (w : World) (T : Int) : One (w.alloc (.cells #[.int .i64 T] 3)) w.heap.size T := heap_alloc_new w _

def isCo (w : World) (t b : Nat) : Prop := w.cell? ⟨b, 0, none⟩ = some (.func (.func 86) #[] #[.pointer (some ⟨t, 0, none⟩), .pointer (some ⟨b, 0, none⟩)])
/-- What the count has become. -/
def Cnt (T : Int) (A : Arr) (T' : Int) : Prop := 0 ≤ T' ∧ T' ≤ 17592186044416 + 262144 ∧ min T' 262145 = min (T + tw A) 262145
theorem Cnt.mk {T T' : Int} {A : Arr} (h1 : 0 ≤ T') (h2 : T' ≤ 17592186044416 + 262144) (h3 : min T' 262145 = min (T + tw A) 262145) : Cnt T A T' := ⟨h1, h2, h3⟩
theorem reach_size {A : Arr} (h : Reach A) : aSize A ≤ 17592186044416 := by
  obtain ⟨k, sh, nu, it⟩ := A
  rw [Reach] at h
  exact aSize_le (by omega) (by omega)
theorem tw_other {k : Int} {sh nu : List Int} {it : List Arr} (h : k ≠ 3) : tw (.mk k sh nu it) = aSize (.mk k sh nu it) := by rw [tw, if_neg h, Int.add_zero]
theorem tw_box {sh nu : List Int} {it : List Arr} : tw (.mk 3 sh nu it) = (it.length : Int) + twL it := by rw [tw, if_pos rfl]; rfl

theorem twL_take : ∀ (l : List Arr) (k : Nat), twL (l.take k) ≤ twL l
  | [], k => by rw [List.take_nil]; exact Int.le_refl _
  | A :: r, 0 => by rw [List.take_zero, twL]; exact twL_nn _
  | A :: r, k + 1 => by
    have := twL_take r k
    rw [List.take_succ_cons, twL, twL]; omega
theorem twL_append (a b : List Arr) : twL (a ++ b) = twL a + twL b := by
  induction a with
  | nil => simp [twL]
  | cons A r ih => rw [List.cons_append, twL, twL, ih]; omega
theorem twL_snoc {l : List Arr} {k : Nat} (h : k < l.length) : twL (l.take (k + 1)) = twL (l.take k) + tw l[k] := by
  rw [List.take_succ_eq_append_getElem h, twL_append, twL, twL]; omega
theorem But.isCo' {t B : Nat} {w w' : World} (h : But t w w') (hB : B ≠ t) (hf : isCo w t B) : isCo w' t B := by
  unfold isCo at hf ⊢
  exact h.cell hB hf

set_option maxHeartbeats 2000000 in
set_option maxRecDepth 100000 in
theorem coQ_any (n : Nat) : ∀ (v : Value) (A : Arr) (w : World) (t b : Nat) (T : Int), rk A ≤ n → Reach A → ArrOn (fun g => g ≠ t) w v A → b ≠ t → isCo w t b → One w t T → 0 ≤ T → T ≤ 262144 →
    Calls Try.prog 86 #[v, .pointer (some ⟨t, 0, none⟩), .pointer (some ⟨b, 0, none⟩)] w fun e w' => e = .returned (.tuple #[]) ∧ But t w w' ∧ ∃ T', One w' t T' ∧ Cnt T A T' := by
  induction n with
  | zero =>
    intro v A w t b T hn _ _ _ _ _ _ _
    obtain ⟨k, sh, nu, it⟩ := A
    rw [rk] at hn; omega
  | succ n ih =>
    intro v A w t B T hn hR h hne hf ho hT0 hT1
    have hO := h
    have hz := reach_size hR
    obtain ⟨k, sh, nu, it⟩ := A
    rw [ArrOn] at h
    obtain ⟨sa, sc, na, nc, ia, ic, rfl, hk, hs, hnn, h1, h2, b, off, ha, hc⟩ := h
    have bn := below_new w (.cells #[.int .i64 k, .slice sa sh.length sc, .slice na nu.length nc, .slice ia it.length ic] 26)
    have hA1 := hO.at.below bn
    have hP1 := Par.new w (.int .i64 k) (.slice sa sh.length sc) (.slice na nu.length nc) (.slice ia it.length ic) 26
    have ho1 := ho.below bn
    obtain ⟨s, hs'⟩ : ∃ s : Nat, aSize (.mk k sh nu it) = s := ⟨_, rfl⟩
    have HS : Hid (aSize (.mk k sh nu it) = s) := hs'
    have S := fun w' (g : ArrAt w' (.agg #[.int .i64 k, .slice sa sh.length sc, .slice na nu.length nc, .slice ia it.length ic]) (.mk k sh nu it)) => sizeQ _ _ w' g
    rw [hs'] at S hz
    obtain ⟨o1, o2⟩ := ho1.cells
    have hw : IntKind.i64.wrap (T + (s : Int)) = T + (s : Int) := by rw [IntKind.wrap_i64]; omega
    have htl : t < w.heap.size := cell_lt ho.cells.1
    clear hs hnn h1 h2 hs' hO
    go_enter Try.func86, Try.ntmps86
    go_wp2_with fail
    go_region_with (go_at_call 61; refine (S _ (hA1.below (Below.refl _ _).drew)).mono ?_; rintro e w1 ⟨rfl, hb1⟩; (obtain ⟨u1, u2⟩ := (ho1.below (Below.then (below_drew _) hb1)).cells))
    all_goals
      have hW1 := Below.then (below_drew _) hb1
      have oN := (ho1.below hW1).set (T + (s : Int))
      have bt : But t w (w1.setCell ⟨t, 0, none⟩ (.int .i64 (T + (s : Int)))) := ((But.of_below bn).trans (But.of_below hW1)).trans (But.set _ _)
      have pN : w1.cell? ⟨w.heap.size, 0, none⟩ = some (.int .i64 k) ∧ w1.cell? ⟨w.heap.size, 3, none⟩ = some (.slice ia it.length ic) := by
        obtain ⟨-, z0, -, -, z3⟩ := hP1.below hW1
        exact ⟨z0, z3⟩
      obtain ⟨z0, z3⟩ := pN
      have y0 : (w1.setCell ⟨t, 0, none⟩ (.int .i64 (T + (s : Int)))).cell? ⟨w.heap.size, 0, none⟩ = some (.int .i64 k) := (World.cell?_of_block (set_other w1 t 0 w.heap.size _ (show w.heap.size ≠ t by omega))).trans z0
      have y3 : (w1.setCell ⟨t, 0, none⟩ (.int .i64 (T + (s : Int)))).cell? ⟨w.heap.size, 3, none⟩ = some (.slice ia it.length ic) := (World.cell?_of_block (set_other w1 t 0 w.heap.size _ (show w.heap.size ≠ t by omega))).trans z3
      generalize w1.setCell ⟨t, 0, none⟩ (.int .i64 (T + (s : Int))) = W2 at oN bt y0 y3 ⊢
      clear hb1 u1 u2 hW1 z0 z3 S hA1 hP1 ho1 o1 o2 hw bn
      by_cases k3 : k = 3
      · subst k3
        have hsl : s = it.length := HS.out.symm
        subst hsl
        have hRL : ReachL it := by rw [Reach] at hR; exact hR.2.2.2
        have HTW : Hid (tw (.mk 3 sh nu it) = (it.length : Int) + twL it) := tw_box
        go_wp2_with fail
        go_loopw [16] (fun i wr => ∃ (j : Nat) (U : Int), j ≤ it.length ∧ i = .int .i64 j ∧ One wr t U ∧ 0 ≤ U ∧ U ≤ 17592186044416 + 262144 ∧ Hid (min U 262145 = min (T + it.length + twL (it.take j)) 262145) ∧ But t w wr) (fun i _ => it.length - (intOf i).toNat)
        case atStart => exact ⟨0, _, Nat.zero_le _, rfl, oN, by omega, by omega, by rw [List.take_zero, twL, Int.add_zero]; rfl, bt⟩
        case round =>
          obtain ⟨j, U, hj, rfl, oU, hU0, hU1, hM, bU⟩ := hrel
          clear oN bt y0 y3
          have hBO := bU.isCo' hne hf
          by_cases hlt : j < it.length
          · have hix := items_at (ic := ic) rfl (fun g => (ha g).1) hlt
            obtain ⟨c0, c1, c2, c3, ⟨g0, g1, g2, g3⟩, hB⟩ := (bU.ons (fun g => (ha g).2) hc).at' hlt
            obtain ⟨ik, ia1, in1, im1, ia2, in2, im2, ia3, in3, im3, rfl, rfl, rfl, rfl⟩ := hB.at.four
            have bI := below_new wr (.cells #[.int .i64 ik, .slice ia1 in1 im1, .slice ia2 in2 im2, .slice ia3 in3 im3] 26)
            have oI := oU.below bI
            obtain ⟨e1, e2⟩ := oI.cells
            by_cases c4 : 262144 < U
            · have HE : Hid (Cnt T (.mk 3 sh nu it) U) := by
                refine Cnt.mk hU0 hU1 ?_
                have := twL_take it j
                have := hM.out
                rw [HTW.out]; omega
              clear ih
              go_wp2_with fail
              first | go_end0 | refine bodyPost_ret (results_none rfl _ _ _) rfl ?_
              exact ⟨rfl, bU.trans (But.of_below bI), U, oI, HE.out⟩
            · have K := ih _ _ _ t B U (Nat.le_of_lt_succ (Nat.lt_of_lt_of_le (rk_item hlt) hn)) (hRL.at hlt) ((But.of_below (t := t) bI).on hB) hne ((But.of_below bI).isCo' hne hBO) oI hU0 (by omega)
              have fI := (But.of_below (t := t) bI).isCo' hne hBO
              unfold isCo at fI
              have HT : Hid (twL (it.take (j + 1)) = twL (it.take j) + tw it[j]) := twL_snoc hlt
              clear ih hB
              go_wp2_with (go_at_call 86; refine K.mono ?_; rintro e w3 ⟨rfl, hb3, U', oV, hV0, hV1, hV2⟩)
              go_roundw
              case rel => exact ⟨j + 1, U', by omega, by go_num, oV, hV0, hV1, by have := hM.out; unfold Hid; rw [HT.out]; omega, (bU.trans (But.of_below bI)).trans hb3⟩
              case measure => simp [intOf]; omega
          · obtain rfl : j = it.length := by omega
            have HE : Hid (Cnt T (.mk 3 sh nu it) U) := by
              refine Cnt.mk hU0 hU1 ?_
              have := hM.out
              rw [List.take_length] at this
              rw [HTW.out]; omega
            clear ih
            go_wp2_with fail
            first | go_end0 | refine bodyPost_ret (results_none rfl _ _ _) rfl ?_
            exact ⟨rfl, bU, U, oU, HE.out⟩
      · have e3 : (k != 3) = true := by simpa using k3
        have HE : Hid (Cnt T (.mk k sh nu it) (T + (s : Int))) := Cnt.mk (by omega) (by omega) (by rw [tw_other k3, HS.out])
        clear k3 ih
        go_wp2_with fail
        first | go_end0 | refine bodyPost_ret (results_none rfl _ _ _) rfl ?_
        exact ⟨rfl, bt, _, oN, HE.out⟩

theorem isCo.new (W : World) (t B : Nat) (ty : TypeId) (hB : B = W.heap.size) : isCo (W.alloc (.cells #[.func (.func 86) #[] #[.pointer (some ⟨t, 0, none⟩), .pointer (some ⟨B, 0, none⟩)]] ty)) t B := by
  subst hB
  unfold isCo
  rw [World.cell?_alloc_new]
  rfl
theorem below3 (w : World) (o o' o'' : Obj) : Below w.heap.size w (((w.alloc o).alloc o').alloc o'') := (below2 w o o').alloc (by simp; omega) o''
theorem One.third (w : World) (o o' : Obj) (t : Nat) (T : Int) (ht : t = w.heap.size + 1) : One (((w.alloc o).alloc (.cells #[.int .i64 T] 3)).alloc o') t T := by
  subst ht
  have h : One ((w.alloc o).alloc (.cells #[.int .i64 T] 3)) (w.heap.size + 1) T := by simpa using One.new (w.alloc o) T
  exact h.below (below_new _ _)
theorem weightQ (v : Value) (A : Arr) (w : World) (h : ArrAt w v A) (hR : Reach A) : Calls Try.prog 70 #[v] w fun e w' => e = .returned (.int .i64 (wt A)) ∧ Below w.heap.size w w' := by
  have hmf : ∀ (fn : Fn) (first cap : Array Value) (w : World), (Instr.makeFunc fn first cap).run Try.prog w = .ok (.func fn first cap) w := fun _ _ _ _ => rfl
  have hA := h
  obtain ⟨k, sh, nu, it⟩ := A
  rw [ArrAt] at h
  obtain ⟨sa, sc, na, nc, ia, ic, rfl, -⟩ := h
  have hw := wt_tw (.mk k sh nu it)
  have K : ∀ w' t B, t = w.heap.size + 1 → B ≠ t → Below w.heap.size w w' → isCo w' t B → One w' t 0 → Calls Try.prog 86 #[.agg #[.int .i64 k, .slice sa sh.length sc, .slice na nu.length nc, .slice ia it.length ic], .pointer (some ⟨t, 0, none⟩), .pointer (some ⟨B, 0, none⟩)] w' (fun e w2 => e = .returned (.tuple #[]) ∧ Below w.heap.size w w2 ∧ ∃ U, One w2 t U ∧ Hid (wt (.mk k sh nu it) = min U 262145)) := by
    intro w' t B ht hne hb hf ho
    refine (coQ_any _ _ _ w' t B 0 (Nat.le_refl _) hR (hA.on.keep fun g hp _ => ⟨by omega, fun _ => hb.cell hp⟩) hne hf ho (by decide) (by decide)).mono ?_
    rintro e w2 ⟨rfl, h3, U, h4, h5, h6, h7⟩
    refine ⟨rfl, hb.trans (h3.below (by omega) hb.size), U, h4, ?_⟩
    unfold Hid
    omega
  clear hw
  go_enter Try.func70, Try.ntmps70
  go_wp2_with (go_at_call 86; refine (K _ _ _ rfl (by simp) (below3 _ _ _ _) (isCo.new _ _ _ _ (by simp)) (One.third _ _ _ _ _ rfl)).mono ?_; rintro e w2 ⟨rfl, hb, U, hU, HU⟩; obtain ⟨u1, u2⟩ := hU.cells)
  all_goals go_ret
  all_goals exact ⟨ret_int (by have := HU.out; omega), hb⟩
end Go.Proofs.Ytkjbccodahleoaa.Shape
