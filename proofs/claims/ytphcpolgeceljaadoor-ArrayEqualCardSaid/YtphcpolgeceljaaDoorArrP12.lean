/-
  Layer 3: the program's Of. (Written by wip/gen/array-p12.py.)
-/
import Derived.Test.YtphcpolgeceljaaDoorArrP11
import Derived.Test.YtphcpolgeceljaaDoorArrOf5
namespace Go.Proofs.YtphcpolgeceljaaDoor.Shape
open Go.RowKit
set_option linter.unusedVariables false

theorem ofN_bad (a : Option Addr) (cap : Nat) (sh : List Int) (v : Value) (F : Arr) (w : World) (h : ArrAt w v F) (hE : rightE F ≠ 0) :
    Calls Tryd.prog 41 #[.slice a sh.length cap, v] w (GiveNewE zeroA 1 w) := by
  have hA := h
  obtain ⟨k, sa, ls, sc, na, ln, nc, ia, li, ic, rfl⟩ : ∃ k sa ls sc na ln nc ia li ic, v = .agg #[.int .i64 k, .slice sa ls sc, .slice na ln nc, .slice ia li ic] := by
    obtain ⟨k, sh, nu, it⟩ := F
    rw [ArrAt] at h
    obtain ⟨sa, sc, na, nc, ia, ic, rfl, -⟩ := h
    exact ⟨_, _, _, _, _, _, _, _, _, _, rfl⟩
  clear h
  have bw := below_two w (.cells #[.int .i64 k, .slice sa ls sc, .slice na ln nc, .slice ia li ic] 26) (.cells #[.int .i64 0, .slice none 0 0, .slice none 0 0, .slice none 0 0] 26)
  have hA1 := hA.below bw
  have q2 : Quad ((w.alloc (.cells #[.int .i64 k, .slice sa ls sc, .slice na ln nc, .slice ia li ic] 26)).alloc (.cells #[.int .i64 0, .slice none 0 0, .slice none 0 0, .slice none 0 0] 26)) (w.heap.size + 1) (.int .i64 0) (.slice none 0 0) (.slice none 0 0) (.slice none 0 0) := by
    simpa using Quad.new (w.alloc (.cells #[.int .i64 k, .slice sa ls sc, .slice na ln nc, .slice ia li ic] 26)) (.int .i64 0) (.slice none 0 0) (.slice none 0 0) (.slice none 0 0)
  obtain ⟨x, hx⟩ : ∃ x, rightE F = x := ⟨_, rfl⟩
  have R := fun v' w' (g : ArrAt w' v' F) => rightQ v' F w' g
  rw [hx] at R hE
  have e2 : (x != 0) = true := by simpa using hE
  clear hx hE hA
  go_enter Tryd.func41, Tryd.ntmps41
  go_wp2_with (go_at_call 13; refine (R _ _ hA1).mono ?_; rintro e w1 ⟨rfl, hb1⟩; (obtain ⟨s0, s1, s2, s3, s4, s5, s6, s7⟩ := (q2.below hb1).cells))
  have q3 := q2.below hb1
  have G := give_set4 (Nat.le_succ w.heap.size) q3 (zero_on _ _) (Below.then bw hb1)
  obtain ⟨QW, -⟩ := set4 q3 (.int .i64 0) (.slice none 0 0) (.slice none 0 0) (.slice none 0 0)
  generalize ((((w1.setCell ⟨w.heap.size + 1, 0, none⟩ (.int .i64 0)).setCell ⟨w.heap.size + 1, 1, none⟩ (.slice none 0 0)).setCell ⟨w.heap.size + 1, 2, none⟩ (.slice none 0 0)).setCell ⟨w.heap.size + 1, 3, none⟩ (.slice none 0 0)) = WW at QW G ⊢
  obtain ⟨z0, z1, z2, z3, -⟩ := QW.cells
  exact bodyPost_ret (v := .tuple #[.agg #[.int .i64 0, .slice none 0 0, .slice none 0 0, .slice none 0 0], .int .i64 1]) (by simp [results, Tryd.results41, go_sem, z0, z1, z2, z3]) rfl (GiveNewE.mk G)


theorem ofN_dims (a : Option Addr) (cap : Nat) (sh : List Int) (v : Value) (F : Arr) (w : World) (g : IntsAt w a cap sh) (h : ArrAt w v F) (hE : rightE F = 0) (hD : dimsE sh ≠ 0) :
    Calls Tryd.prog 41 #[.slice a sh.length cap, v] w (GiveNewE zeroA (dimsE sh) w) := by
  have hA := h
  obtain ⟨k, sa, ls, sc, na, ln, nc, ia, li, ic, rfl⟩ : ∃ k sa ls sc na ln nc ia li ic, v = .agg #[.int .i64 k, .slice sa ls sc, .slice na ln nc, .slice ia li ic] := by
    obtain ⟨k, sh, nu, it⟩ := F
    rw [ArrAt] at h
    obtain ⟨sa, sc, na, nc, ia, ic, rfl, -⟩ := h
    exact ⟨_, _, _, _, _, _, _, _, _, _, rfl⟩
  clear h
  have bw := below_two w (.cells #[.int .i64 k, .slice sa ls sc, .slice na ln nc, .slice ia li ic] 26) (.cells #[.int .i64 0, .slice none 0 0, .slice none 0 0, .slice none 0 0] 26)
  have hA1 := hA.below bw
  have g1 := g.below bw
  have q2 : Quad ((w.alloc (.cells #[.int .i64 k, .slice sa ls sc, .slice na ln nc, .slice ia li ic] 26)).alloc (.cells #[.int .i64 0, .slice none 0 0, .slice none 0 0, .slice none 0 0] 26)) (w.heap.size + 1) (.int .i64 0) (.slice none 0 0) (.slice none 0 0) (.slice none 0 0) := by
    simpa using Quad.new (w.alloc (.cells #[.int .i64 k, .slice sa ls sc, .slice na ln nc, .slice ia li ic] 26)) (.int .i64 0) (.slice none 0 0) (.slice none 0 0) (.slice none 0 0)
  have R := fun v' w' (g : ArrAt w' v' F) => rightQ v' F w' g
  rw [hE] at R
  have D := fun w' (g : IntsAt w' a cap sh) => checkShapeQ a cap sh w' g
  simp only [shN_bad hD] at D
  generalize dimsE sh = y at D hD ⊢
  have e2 : (y != 0) = true := by simpa using hD
  clear hE hA hD
  go_enter Tryd.func41, Tryd.ntmps41
  go_wp2_with (first
    | (go_at_call 13; refine (R _ _ hA1).mono ?_; rintro e w1 ⟨rfl, hb1⟩; (obtain ⟨s0, s1, s2, s3, s4, s5, s6, s7⟩ := (q2.below hb1).cells))
    | (go_at_call 61; refine (D _ (g1.below hb1)).mono ?_; rintro e w2 ⟨rfl, rfl⟩))
  have q3 := q2.below hb1
  have G := give_set4 (Nat.le_succ w.heap.size) q3 (zero_on _ _) (Below.then bw hb1)
  obtain ⟨QW, -⟩ := set4 q3 (.int .i64 0) (.slice none 0 0) (.slice none 0 0) (.slice none 0 0)
  generalize ((((w1.setCell ⟨w.heap.size + 1, 0, none⟩ (.int .i64 0)).setCell ⟨w.heap.size + 1, 1, none⟩ (.slice none 0 0)).setCell ⟨w.heap.size + 1, 2, none⟩ (.slice none 0 0)).setCell ⟨w.heap.size + 1, 3, none⟩ (.slice none 0 0)) = WW at QW G ⊢
  obtain ⟨z0, z1, z2, z3, -⟩ := QW.cells
  exact bodyPost_ret (v := .tuple #[.agg #[.int .i64 0, .slice none 0 0, .slice none 0 0, .slice none 0 0], .int .i64 y]) (by simp [results, Tryd.results41, go_sem, z0, z1, z2, z3]) rfl (GiveNewE.mk G)

/-- A list repeated cyclically; an empty one stays empty. -/
def cyc0 {α : Type} (l : List α) (z : α) (n : Nat) : List α := if l = [] then [] else cyc l z n
theorem quads_len {P : Nat → Prop} {w : World} : ∀ {qs : List Value} {l : List Arr}, Quads P w qs l → qs.length = l.length * 4
  | [], [], _ => rfl
  | c0 :: c1 :: c2 :: c3 :: q, A :: r, h => by
    rw [Quads] at h
    have := quads_len h.2
    simp only [List.length_cons]; omega
  | [], _ :: _, h => by simp [Quads] at h
  | _ :: _, [], h => by simp [Quads] at h
  | [_], _ :: _, h => by simp [Quads] at h
  | [_, _], _ :: _, h => by simp [Quads] at h
  | [_, _, _], _ :: _, h => by simp [Quads] at h
theorem quads_at {P : Nat → Prop} {w : World} : ∀ {l : List Arr} {qs : List Value}, Quads P w qs l → ∀ {k : Nat} (hk : k < l.length), ∃ c0 c1 c2 c3, (qs[k * 4]? = some c0 ∧ qs[k * 4 + 1]? = some c1 ∧ qs[k * 4 + 2]? = some c2 ∧ qs[k * 4 + 3]? = some c3) ∧ ArrOn P w (.agg #[c0, c1, c2, c3]) l[k]
  | [], _, _, k, hk => absurd hk (by simp)
  | A :: r, qs, h, k, hk => by
    obtain ⟨c0, c1, c2, c3, q, rfl, hA, hq⟩ := quads_cons h
    cases k with
    | zero => exact ⟨c0, c1, c2, c3, ⟨rfl, rfl, rfl, rfl⟩, hA⟩
    | succ k =>
      obtain ⟨d0, d1, d2, d3, hd, hB⟩ := quads_at hq (k := k) (by simpa using hk)
      refine ⟨d0, d1, d2, d3, ?_, by simpa using hB⟩
      rw [show (k + 1) * 4 = k * 4 + 4 by omega]
      simpa using hd
theorem cyc_four (qs : List Value) (z : Value) (L n : Nat) (h : qs.length = L * 4) (h0 : 0 < L) {c0 c1 c2 c3 : Value} (hc : qs[n % L * 4]? = some c0 ∧ qs[n % L * 4 + 1]? = some c1 ∧ qs[n % L * 4 + 2]? = some c2 ∧ qs[n % L * 4 + 3]? = some c3) :
    cyc qs z ((n + 1) * 4) = cyc qs z (n * 4) ++ [c0, c1, c2, c3] := by
  have e : ∀ i, i < 4 → (n * 4 + i) % qs.length = n % L * 4 + i := by
    intro i hi
    rw [h]
    have h1 := Nat.div_add_mod n L
    have h2 := Nat.mod_lt n h0
    have h3 : n * 4 + i = (n % L * 4 + i) + (L * 4) * (n / L) := by
      rw [Nat.mul_right_comm]
      omega
    rw [h3, Nat.add_mul_mod_self_left]
    exact Nat.mod_eq_of_lt (by omega)
  rw [show (n + 1) * 4 = n * 4 + 1 + 1 + 1 + 1 by omega, cyc_succ, cyc_succ, cyc_succ, cyc_succ]
  rw [show n * 4 + 1 + 1 + 1 = n * 4 + 3 by omega, show n * 4 + 1 + 1 = n * 4 + 2 by omega]
  have e0 := e 0 (by decide)
  rw [Nat.add_zero, Nat.add_zero] at e0
  rw [e0, e 1 (by decide), e 2 (by decide), e 3 (by decide)]
  simp only [List.getD_eq_getElem?_getD, hc.1, hc.2.1, hc.2.2.1, hc.2.2.2, Option.getD_some, List.append_assoc, List.cons_append, List.nil_append]
theorem cyc_quads {P : Nat → Prop} {w : World} {qs : List Value} {l : List Arr} (z : Value) (h : Quads P w qs l) (h0 : 0 < l.length) : ∀ n, Quads P w (cyc qs z (n * 4)) (cyc l zeroA n)
  | 0 => by rw [Nat.zero_mul, cyc_nil, cyc_nil, Quads]; trivial
  | n + 1 => by
    have hk : n % l.length < l.length := Nat.mod_lt _ h0
    obtain ⟨c0, c1, c2, c3, hc, hA⟩ := quads_at h hk
    rw [cyc_four qs z l.length n (quads_len h) h0 hc, cyc_succ]
    have e : l.getD (n % l.length) zeroA = l[n % l.length] := by rw [List.getD_eq_getElem?_getD, List.getElem?_eq_getElem hk]; rfl
    rw [e]
    exact (cyc_quads z h h0 n).snoc hA

theorem cycleIQ (a : Option Addr) (cap : Nat) (xs : List Int) (n : Nat) (w : World) (h : IntsAt w a cap xs) (hr : xs.length * 8 ≤ 140737488351232) (hn : n ≤ 65536) :
    Calls Tryd.prog 62 #[.slice a xs.length cap, .int .i64 (n : Int)] w fun e w' => ∃ a' c', e = .returned (.slice a' (cyc0 xs 0 n).length c') ∧ IntsOn (fun g => w.heap.size ≤ g) w' a' c' (cyc0 xs 0 n) ∧ Below w.heap.size w w' := by
  by_cases h0 : xs = []
  · subst h0
    rw [cyc0, if_pos rfl]
    go_enter Tryd.func62, Tryd.ntmps62
    go_wp2_with fail
    go_ret
    exact ⟨none, 0, rfl, ⟨ints_nil w, fun g => absurd rfl g⟩, Below.refl _ _⟩
  · rw [cyc0, if_neg h0]
    have hl : 0 < xs.length := List.length_pos_iff.2 h0
    have hh := h
    obtain ⟨-, -, hb, b, off, ha, hc⟩ := h
    rw [ha h0] at hh ⊢
    refine (cycleI_any ⟨b, off, none⟩ cap xs.length (xs.map (Value.int .i64)) n w (by simp) hl hr hn ?_ (fun j => by rw [add_plain]) (by intro u hu; obtain ⟨x, _, rfl⟩ := List.mem_map.1 hu; rfl)).mono ?_
    · intro j v hj
      have hjl : j < xs.length := by
        have := (List.getElem?_eq_some_iff.1 hj).1
        simpa using this
      rw [add_plain, hc j hjl, ← hj, List.getElem?_map, List.getElem?_eq_getElem hjl]
      rfl
    · rintro e w' ⟨rfl, hg, hbl⟩
      rw [Nat.mul_one, show Value.int .i64 0 = (Value.int .i64) 0 from rfl, cyc_map] at hg
      refine ⟨_, n, by rw [cyc_len], ⟨⟨by rw [cyc_len]; exact Nat.le_refl _, by omega, cyc_bd hb, w.heap.size, 0, fun _ => rfl, fun i hi => ?_⟩, fun _ ad e => by cases e; exact Nat.le_refl _⟩, hbl⟩
      simp [World.cell?, hg, hi]
theorem cycleAQ (P : Nat → Prop) (a : Option Addr) (cap b off : Nat) (l : List Arr) (n : Nat) (w : World) (hc : l.length ≤ cap) (ha : l ≠ [] → a = some ⟨b, off, none⟩) (h : ArrsOn P w b off l) (hr : l.length * 80 ≤ 140737488351232) (hn : n ≤ 65536) :
    Calls Tryd.prog 63 #[.slice a l.length cap, .int .i64 (n : Int)] w fun e w' => ∃ a' c' b', e = .returned (.slice a' (cyc0 l zeroA n).length c') ∧ (cyc0 l zeroA n).length ≤ c' ∧ c' ≤ 9223372036854775807 ∧ (cyc0 l zeroA n ≠ [] → a' = some ⟨b', 0, none⟩) ∧ w.heap.size ≤ b' ∧ ArrsOn P w' b' 0 (cyc0 l zeroA n) ∧ Below w.heap.size w w' := by
  by_cases h0 : l = []
  · subst h0
    rw [cyc0, if_pos rfl]
    go_enter Tryd.func63, Tryd.ntmps63
    go_wp2_with fail
    go_ret
    exact ⟨none, 0, w.heap.size, rfl, Nat.le_refl _, by decide, fun g => absurd rfl g, Nat.le_refl _, by rw [ArrsOn]; trivial, Below.refl _ _⟩
  · rw [cyc0, if_neg h0]
    have hl : 0 < l.length := List.length_pos_iff.2 h0
    obtain ⟨qs, q1, q2, q3, q4⟩ := arrs_quads h
    rw [ha h0]
    refine (cycleA_any ⟨b, off, none⟩ cap l.length qs n w q1 hl (by omega) hn ?_ (fun j => by rw [add_plain]) q4).mono ?_
    · intro j v hj
      have hjl : j < qs.length := (List.getElem?_eq_some_iff.1 hj).1
      rw [add_plain, q2 j hjl, ← hj, List.getElem?_eq_getElem hjl]
    · rintro e w' ⟨rfl, hg, hbl⟩
      refine ⟨_, n, w.heap.size, by rw [cyc_len], by rw [cyc_len]; exact Nat.le_refl _, by omega, fun _ => rfl, Nat.le_refl _, ?_, hbl⟩
      have hq := (cyc_quads (.int .i64 0) q3 hl n).keep (R := P) (w' := w') (fun g hg hl => ⟨hg, fun o => hbl.cell hl⟩)
      exact hq.arrs fun i hi => by simp [World.cell?, hg, hi]
end Go.Proofs.YtphcpolgeceljaaDoor.Shape
