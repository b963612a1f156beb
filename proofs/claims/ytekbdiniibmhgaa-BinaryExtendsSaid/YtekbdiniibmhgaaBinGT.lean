/-
  Layer 2: the program's longer: which of two lists is a prefix of the other.
  Layer 2: the program's Same and Agree.
-/
import Derived.Test.YtekbdiniibmhgaaBinGS
import Derived.Test.YtekbdiniibmhgaaBinGI
import Derived.WalkMore
import Derived.Test.YtekbdiniibmhgaaBinGO
namespace Go.Proofs.Ytekbdiniibmhgaa.Shp
open Go.Proofs.Ytekbdiniibmhgaa.Shape
open Go.RowKit

/-- Is ys a prefix of xs? -/
def preB (xs ys : List Int) : Bool := decide (ys.length ≤ xs.length ∧ ∀ j (h1 : j < xs.length) (h2 : j < ys.length), xs[j] = ys[j])
def lonB (xs ys : List Int) : Bool := preB xs ys || preB ys xs
def lonL (xs ys : List Int) : List Int := if preB xs ys = true then xs else if preB ys xs = true then ys else []
theorem pre_no_len {xs ys : List Int} (h : xs.length < ys.length) : preB xs ys = false := by
  simp only [preB, decide_eq_false_iff_not]; omega
theorem pre_no_at {xs ys : List Int} {k : Nat} (h1 : k < xs.length) (h2 : k < ys.length) (h : ¬ xs[k] = ys[k]) : preB xs ys = false := by
  simp only [preB, decide_eq_false_iff_not]
  exact fun hh => h (hh.2 k h1 h2)
theorem pre_yes {xs ys : List Int} (h : ys.length ≤ xs.length) (h2 : ∀ j (h1 : j < xs.length) (h2 : j < ys.length), xs[j] = ys[j]) : preB xs ys = true := by
  simp only [preB, decide_eq_true_eq]; exact ⟨h, h2⟩

/-- The two lists of round j, and what is known when they agree and when not. -/
theorem lon_pair (a : Option Addr) (cap : Nat) (xs : List Int) (a2 : Option Addr) (cap2 : Nat) (ys : List Int) (w : World) (h : IntsAt w a cap xs) (g : IntsAt w a2 cap2 ys) (j : Nat) (hj : j < 2)
    (h1 : 1 ≤ j → preB xs ys = false) :
    ∃ A1 C1 L1 A2 C2 L2, (∀ w' : World, (Instr.index 76 (.agg #[.slice a xs.length cap, .slice a2 ys.length cap2, .slice a2 ys.length cap2, .slice a xs.length cap]) (.int .i64 j)).run Try.prog w' = .ok (.agg #[.slice A1 (List.length L1) C1, .slice A2 (List.length L2) C2]) w') ∧
      IntsAt w A1 C1 L1 ∧ IntsAt w A2 C2 L2 ∧ (preB L1 L2 = true → lonL xs ys = L1 ∧ lonB xs ys = true) ∧ (preB L1 L2 = false → preB xs ys = false ∧ (2 ≤ j + 1 → preB ys xs = false)) := by
  match j, hj with
  | 0, _ => exact ⟨a, cap, xs, a2, cap2, ys, fun w' => by kernel_rfl, h, g, fun e => ⟨by rw [lonL, if_pos e], by rw [lonB, e]; rfl⟩, fun e => ⟨e, fun h => absurd h (by decide)⟩⟩
  | 1, _ =>
    have h0 := h1 (Nat.le_refl _)
    exact ⟨a2, cap2, ys, a, cap, xs, fun w' => by kernel_rfl, g, h, fun e => ⟨by rw [lonL, h0, e]; rfl, by rw [lonB, e]; simp⟩, fun e => ⟨h0, fun _ => e⟩⟩

set_option maxHeartbeats 400000 in
theorem longerP (a : Option Addr) (cap : Nat) (xs : List Int) (a2 : Option Addr) (cap2 : Nat) (ys : List Int) (w : World) (h : IntsAt w a cap xs) (g : IntsAt w a2 cap2 ys) :
    Calls Try.prog 66 #[.slice a xs.length cap, .slice a2 ys.length cap2] w (SliceBool (lonL xs ys) (lonB xs ys) w) := by
  have hl := h.len
  have hl2 := g.len
  go_enter Try.func66, Try.ntmps66
  go_wp2_with fail
  go_step3
  go_wp2_with fail
  go_step3
  go_wp2_with fail
  go_loopw [19] (fun i wr => ∃ j : Nat, j ≤ 2 ∧ i = .int .i64 j ∧ Below w.heap.size w wr ∧ (1 ≤ j → preB xs ys = false) ∧ (2 ≤ j → preB ys xs = false)) (fun i _ => 2 - (intOf i).toNat)
  case atStart => exact ⟨0, by decide, rfl, Below.refl _ _, fun h => absurd h (by decide), fun h => absurd h (by decide)⟩
  case round =>
    obtain ⟨j, hj, rfl, hbel, n1, n2⟩ := hrel
    by_cases hlt : j < 2
    · obtain ⟨A1, C1, L1, A2, C2, L2, hix, g1, g2, hyes, hno⟩ := lon_pair a cap xs a2 cap2 ys w h g j hlt n1
      clear n1 n2
      go_wp2_with fail
      have k0 : (wr.alloc (.cells #[.slice A1 L1.length C1, .slice A2 L2.length C2] 75)).cell? ⟨wr.heap.size, 0, none⟩ = some (.slice A1 L1.length C1) := by rw [World.cell?_alloc_new]; rfl
      have k1 : (wr.alloc (.cells #[.slice A1 L1.length C1, .slice A2 L2.length C2] 75)).cell? ⟨wr.heap.size, 1, none⟩ = some (.slice A2 L2.length C2) := by rw [World.cell?_alloc_new]; rfl
      have hb1 : Below w.heap.size w (wr.alloc (.cells #[.slice A1 L1.length C1, .slice A2 L2.length C2] 75)) := hbel.alloc hbel.size _
      generalize wr.alloc (.cells #[.slice A1 L1.length C1, .slice A2 L2.length C2] 75) = W1 at k0 k1 hb1 ⊢
      clear hix hbel
      go_quiet (fail)
      have hb2 : Below w.heap.size w (W1.drewN nq) := hb1.trans ((below_drewN nq).mono hb1.size)
      by_cases hll : L1.length < L2.length
      · obtain ⟨f1, f2⟩ := hno (pre_no_len hll)
        clear hyes hno
        go_wp2_with fail
        go_roundw
        case rel => exact ⟨j + 1, by omega, by go_num, hb2, fun _ => f1, f2⟩
        case measure => simp [intOf]; omega
      · have hl1 := g1.len
        have hl3 := g2.len
        have HY : Hid (preB L1 L2 = true → lonL xs ys = L1 ∧ lonB xs ys = true) := hyes
        have HN : Hid (preB L1 L2 = false → preB xs ys = false ∧ (2 ≤ j + 1 → preB ys xs = false)) := hno
        clear hyes hno k0 k1
        go_wp2_with fail
        go_loop [33] (fun i => ∃ k : Nat, k ≤ L2.length ∧ i = .int .i64 k ∧ ∀ m (h1 : m < L1.length) (h2 : m < L2.length), m < k → L1[m] = L2[m]) (fun i => L2.length - (intOf i).toNat)
        case atStart => exact ⟨0, Nat.zero_le _, rfl, fun m _ _ hm => absurd hm (Nat.not_lt_zero _)⟩
        case round =>
          obtain ⟨k, hk, rfl, he⟩ := hrel
          have HE : Hid (∀ m (h1 : m < L1.length) (h2 : m < L2.length), m < k → L1[m] = L2[m]) := he
          clear he
          by_cases hlk : k < L2.length
          · have hlk1 : k < L1.length := by omega
            obtain ⟨b, off, hi, hc⟩ := (g1.below hb2).at hlk1
            obtain ⟨b2, off2, hi2, hc2⟩ := (g2.below hb2).at hlk
            by_cases c1 : L1[k] = L2[k]
            · have c1' : (L1[k] != L2[k]) = false := by simpa using c1
              have HC : Hid (L1[k] = L2[k]) := c1
              clear c1
              go_wp2_with fail
              go_round
              case rel => exact ⟨k + 1, by omega, by go_num, fun m h1 h2 hm => by
                by_cases e : m = k
                · subst e; exact HC.out
                · exact HE.out m h1 h2 (by omega)⟩
              case measure => simp [intOf]; omega
            · obtain ⟨f1, f2⟩ := HN.out (pre_no_at hlk1 hlk c1)
              have c1' : (L1[k] != L2[k]) = true := by simpa using c1
              clear c1
              go_wp2_with fail
              refine ⟨⟨j + 1, by omega, by go_num, hb2, fun _ => f1, f2⟩, ?_⟩
              simp [intOf]; omega
          · have hp := HY.out (pre_yes (by omega) (fun m h1 h2 => HE.out m h1 h2 (by omega)))
            go_wp2_with fail
            go_ret2
            exact SliceBool.some (by first | rfl | exact hp.1) (by first | rfl | exact hp.2) (g1.below hb2) hb2
    · have f1 := n1 (by omega)
      have f2 := n2 (by omega)
      clear n1 n2
      go_wp2_with fail
      rw [Exit.noGoto_ret]
      go_ret2
      exact SliceBool.none (by rw [lonL, f1, f2]; rfl) (by rw [lonB, f1, f2]; rfl) hbel
end Go.Proofs.Ytekbdiniibmhgaa.Shp

namespace Go.Proofs.Ytekbdiniibmhgaa.Shp
open Go.Proofs.Ytekbdiniibmhgaa.Shape
open Go.RowKit

theorem lon_same {xs ys : List Int} (h : xs.length = ys.length) : lonB xs ys = sameB xs ys := by
  by_cases e : xs = ys
  · subst e
    rw [lonB, pre_yes (Nat.le_refl _) (fun _ _ _ => rfl)]; simp [sameB]
  · have key : ∀ {us vs : List Int}, us.length = vs.length → ¬ us = vs → preB us vs = false := by
      intro us vs hl hn
      simp only [preB, decide_eq_false_iff_not]
      exact fun hh => hn (List.ext_getElem hl (fun i h1 h2 => hh.2 i h1 h2))
    rw [lonB, key h e, key h.symm (fun h => e h.symm)]; simp [sameB, e]

theorem pre_same {xs ys : List Int} (h : ys.length ≤ xs.length) : preB xs ys = sameB (xs.take (min xs.length ys.length)) (ys.take (min xs.length ys.length)) := by
  rw [Nat.min_eq_right h, List.take_length, Bool.eq_iff_iff, preB, sameB, decide_eq_true_eq, decide_eq_true_eq]
  constructor
  · rintro ⟨_, hh⟩
    refine List.ext_getElem (by rw [List.length_take]; omega) (fun i h1 h2 => ?_)
    rw [List.getElem_take]; exact hh i (by omega) h2
  · intro e
    refine ⟨h, fun j h1 h2 => ?_⟩
    have hj : j < (xs.take ys.length).length := by rw [List.length_take]; omega
    have e2 : (xs.take ys.length)[j] = ys[j] := by simp only [e]
    rw [List.getElem_take] at e2; exact e2
theorem pre_anti {xs ys : List Int} (h : preB ys xs = true) (hl : ys.length ≤ xs.length) : preB xs ys = true := by
  rw [preB, decide_eq_true_eq] at h ⊢
  exact ⟨hl, fun j h1 h2 => (h.2 j h2 h1).symm⟩
theorem sameB_comm (xs ys : List Int) : sameB ys xs = sameB xs ys := by
  unfold sameB; rw [Bool.eq_iff_iff, decide_eq_true_eq, decide_eq_true_eq]; exact ⟨Eq.symm, Eq.symm⟩
/-- For valid shapes: they agree just where one is a prefix of the other. -/
theorem ag_lon {xs ys : List Int} (h1 : rightB xs = true) (h2 : rightB ys = true) : agB xs ys = lonB xs ys ∧ agL xs ys = lonL xs ys := by
  have e0 : agB xs ys = sameB (xs.take (min xs.length ys.length)) (ys.take (min xs.length ys.length)) := by rw [agB, h1, h2]; rfl
  by_cases hl : ys.length ≤ xs.length
  · rw [← pre_same hl] at e0
    have e1 : lonB xs ys = preB xs ys := by
      rw [lonB]
      cases hp : preB xs ys with
      | true => rfl
      | false =>
        cases hq : preB ys xs with
        | false => rfl
        | true => rw [pre_anti hq hl] at hp; cases hp
    refine ⟨by rw [e0, e1], ?_⟩
    rw [agL, e0, lonL]
    cases hp : preB xs ys with
    | true => simp [hl]
    | false =>
      cases hq : preB ys xs with
      | false => rfl
      | true => rw [pre_anti hq hl] at hp; cases hp
  · have hp : preB xs ys = false := pre_no_len (by omega)
    have e1 : sameB (xs.take (min xs.length ys.length)) (ys.take (min xs.length ys.length)) = preB ys xs := by
      rw [pre_same (by omega : xs.length ≤ ys.length), sameB_comm, Nat.min_comm]
    rw [e1] at e0
    refine ⟨by rw [e0, lonB, hp]; rfl, ?_⟩
    rw [agL, e0, lonL, hp]
    cases hq : preB ys xs with
    | true => simp [hl]
    | false => rfl

/-! ### append([]int{}, xs...) -/
theorem run_append_lit {w0 w : World} {a : Option Addr} {cap : Nat} {xs : List Int} (ty : TypeId) (hw : w = w0.alloc (.cells #[] 3)) (h : IntsAt w a cap xs) (hr : xs.length ≤ 8) :
    ∃ a' c' w', (Builtin.append_ #[30, 30] ty #[.slice (some ⟨w0.heap.size, 0, none⟩) 0 0, .slice a xs.length cap]).run Try.prog w = .ok (.slice a' xs.length c') w' ∧ IntsOn (fun g => w0.heap.size ≤ g) w' a' c' xs ∧ Below w0.heap.size w w' := by
  obtain ⟨i0, hi, hz0, hz1, hz2⟩ := info_parts infoInt
  have hown : w.ownsRow w0.heap.size 3 1 (.slice (some ⟨w0.heap.size, 0, none⟩) 0 0) 0 [] :=
    ⟨rfl, Or.inr ⟨w0.heap.size, 0, #[], rfl, Nat.le_refl _, by subst hw; show (w0.heap.push _)[w0.heap.size]? = _; simp, Nat.le_refl _, by unfold maxLen; omega, rfl, rfl⟩⟩
  have hsz : w0.heap.size ≤ w.heap.size := by subst hw; simp
  have h0 := h
  obtain ⟨h1, h2, h3, b, off, ha, hc⟩ := h
  have go : ∀ ad : Addr, a = some ad → (∀ j u, (xs.map (Value.int .i64))[j]? = some u → w.cell? (ad.add j) = some u) →
      ∃ a' c' w', (Builtin.append_ #[30, 30] ty #[.slice (some ⟨w0.heap.size, 0, none⟩) 0 0, .slice a xs.length cap]).run Try.prog w = .ok (.slice a' xs.length c') w' ∧ IntsOn (fun g => w0.heap.size ≤ g) w' a' c' xs ∧ Below w0.heap.size w w' := by
    intro ad hA hcell
    subst hA
    obtain ⟨v', w', hrun, hown', hgrow, _⟩ := run_append_own (P := Try.prog) w w0.heap.size 30 ty 3 i0 (.int .i64 0) 1 8 Try.underlying30 hi hz0 hz1 hz2 rfl (by decide) _ 0 [] hown
      ad xs.length cap (xs.map (Value.int .i64)) (by simp) hcell (by intro u hu; obtain ⟨x, _, rfl⟩ := List.mem_map.1 hu; rfl) (by unfold maxLen; omega) (by omega) hsz
    simp only [Nat.zero_add, List.nil_append] at hown'
    obtain ⟨a', c', rfl, hon⟩ := ints_of_own rfl hown' h3
    exact ⟨a', c', w', hrun, hon, (Below.refl _ _).grown hgrow hsz (fun k hk => by simp [Value.ownBlock] at hk; omega)⟩
  cases xs with
  | nil =>
    cases a with
    | none => exact ⟨some ⟨w0.heap.size, 0, none⟩, 0, w, by simp [Builtin.append_, run_underlying Try.underlying30, sizeOf, typeInfo, hi, Builtin.lenOf, Builtin.firstCells, storeCells], ⟨⟨Nat.zero_le _, by decide, fun x hx => absurd hx (by simp), 0, 0, fun hn => absurd rfl hn, fun i hi => absurd hi (by simp)⟩, fun g => absurd rfl g⟩, Below.refl _ _⟩
    | some ad => exact go ad rfl (by simp)
  | cons x r =>
    have e := ha (by simp)
    refine go _ e fun j u hj => ?_
    rw [add_plain]
    have hjl : j < (x :: r).length := by
      have := (List.getElem?_eq_some_iff.1 hj).1
      simpa using this
    rw [hc j hjl]
    rw [← hj, List.getElem?_map, List.getElem?_eq_getElem hjl]
    rfl
theorem wpList_append_lit {ops : Array Oper} {rest : List Oper} {o : Oper} {a : Act} {w : World} {Q : Exit → Act → World → Prop} (hgd : o.guard = none) (s x : Operand)
    (ho : o.op = .call { callee := .builtin .append, args := #[s, x], argTypes := #[30, 30] }) (w0 : World) (hw : w = w0.alloc (.cells #[] 3)) (hs : a.eval s = .slice (some ⟨w0.heap.size, 0, none⟩) 0 0)
    (ad : Option Addr) (c : Nat) (xs : List Int) (hx : a.eval x = .slice ad xs.length c) (hi : IntsAt w ad c xs) (hr : xs.length ≤ 8)
    (h : ∀ a' c' w', IntsOn (fun g => w0.heap.size ≤ g) w' a' c' xs → Below w0.heap.size w w' → wpList Try.prog ops Q rest (a.put o.dst (.slice a' xs.length c')) w') :
    wpList Try.prog ops Q (o :: rest) a w := by
  refine wpList_plain hgd fun K hK => ?_
  obtain ⟨a', c', w', hrun, h1, h2⟩ := run_append_lit o.type hw hi hr
  unfold Oper.wp execOp
  simp only [ho, resolve, invoke, builtin, Sem.run_bind, Sem.run_pure, Result.andThen_ok, List.map_toArray, List.map_cons, List.map_nil, hs, hx, hrun]
  exact hK _ _ (h a' c' w' h1 h2)

/-- A list in new blocks, and a bool. -/
def SBOn (L : List Int) (b : Bool) (w : World) (e : Ending) (w' : World) : Prop := ∃ a c, e = .returned (.tuple #[.slice a L.length c, .bool b]) ∧ IntsOn (fun g => w.heap.size ≤ g) w' a c L ∧ Below w.heap.size w w'
theorem SBOn.some {L : List Int} {b : Bool} {w w' : World} {a : Option Addr} {c : Nat} {M : List Int} (hL : L = M) (hb : b = true) (h : IntsOn (fun g => w.heap.size ≤ g) w' a c M) (hw : Below w.heap.size w w') : SBOn L b w (.returned (.tuple #[.slice a M.length c, .bool true])) w' := by
  subst hL; subst hb; exact ⟨a, c, rfl, h, hw⟩
theorem SBOn.none {L : List Int} {b : Bool} {w w' : World} (hL : L = []) (hb : b = false) (hw : Below w.heap.size w w') : SBOn L b w (.returned (.tuple #[.slice Option.none 0 0, .bool false])) w' := by
  subst hL; subst hb; exact ⟨Option.none, 0, rfl, ⟨⟨Nat.zero_le _, by decide, fun x hx => absurd hx (by simp), 0, 0, fun hn => absurd rfl hn, fun i hi => absurd hi (by simp)⟩, fun g => absurd rfl g⟩, hw⟩
theorem SBOn.nil {w w' : World} {xs ys : List Int} (h : agB xs ys = false) (hb : Below w.heap.size w w') : SBOn (agL xs ys) (agB xs ys) w (.returned (.tuple #[.slice Option.none 0 0, .bool false])) w' :=
  SBOn.none (by rw [agL, h]; rfl) h hb
set_option maxHeartbeats 1000000 in
theorem agreeP (a : Option Addr) (cap : Nat) (xs : List Int) (a2 : Option Addr) (cap2 : Nat) (ys : List Int) (w : World) (h : IntsAt w a cap xs) (g : IntsAt w a2 cap2 ys) :
    Calls Try.prog 32 #[.slice a xs.length cap, .slice a2 ys.length cap2] w (SBOn (agL xs ys) (agB xs ys) w) := by
  have hl := h.len
  have hl2 := g.len
  by_cases hr : rightB xs = true
  · by_cases hr2 : rightB ys = true
    · obtain ⟨e1, e2⟩ := ag_lon hr hr2
      rw [e1, e2]
      clear e1 e2
      have HC := longerP a cap xs a2 cap2 ys w h g
      have hL : (lonL xs ys).length ≤ 8 := by
        have h1 := (right_def.1 hr).1
        have h2 := (right_def.1 hr2).1
        unfold lonL; split
        · exact h1
        · split
          · exact h2
          · exact Nat.zero_le _
      have hN : lonB xs ys = false → lonL xs ys = [] := by
        intro e
        rw [lonB, Bool.or_eq_false_iff] at e
        rw [lonL, e.1, e.2]; rfl
      generalize lonL xs ys = L at HC hL hN ⊢
      cases hb : lonB xs ys with
      | true =>
        rw [hb] at HC
        clear hN hb
        go_enter Try.func32, Try.ntmps32
        go_wp2_with (first
          | (go_at_call 65; ((with_reducible refine (rightP a cap xs _ h).mono ?_); rintro e w' ⟨rfl, rfl⟩))
          | (go_at_call 65; ((with_reducible refine (rightP a2 cap2 ys _ g).mono ?_); rintro e w' ⟨rfl, rfl⟩))
          | (go_at_call 66; refine HC.mono ?_; rintro e w' ⟨a', c', rfl, hin, hb⟩)
          | (at_builtin; refine wpList_append_lit rfl _ _ rfl _ rfl rfl _ _ L rfl (hin.below ((Below.refl _ _).alloc (Nat.le_refl _) _)) hL ?_; intro a3 c3 w3 hin3 hb3))
        go_ret2
        exact SBOn.some rfl rfl (hin3.mono fun g h => Nat.le_trans hb.size h) ((hb.alloc hb.size _).trans (hb3.mono hb.size))
      | false =>
        have HL : Hid (L = []) := hN hb
        rw [hb] at HC
        clear hN hb
        go_enter Try.func32, Try.ntmps32
        go_wp2_with (first
          | (go_at_call 65; ((with_reducible refine (rightP a cap xs _ h).mono ?_); rintro e w' ⟨rfl, rfl⟩))
          | (go_at_call 65; ((with_reducible refine (rightP a2 cap2 ys _ g).mono ?_); rintro e w' ⟨rfl, rfl⟩))
          | (go_at_call 66; refine HC.mono ?_; rintro e w' ⟨a', c', rfl, hin, hb⟩))
        go_ret2
        exact SBOn.none HL.out rfl hb
    · have hr2' : rightB ys = false := by simpa using hr2
      have ea : agB xs ys = false := by rw [agB, hr2']; simp
      have ES : Hid (agB xs ys = false) := ea
      clear ea hr2
      go_enter Try.func32, Try.ntmps32
      go_wp2_with (first
        | (go_at_call 65; ((with_reducible refine (rightP a cap xs _ h).mono ?_); rintro e w' ⟨rfl, rfl⟩))
        | (go_at_call 65; ((with_reducible refine (rightP a2 cap2 ys _ g).mono ?_); rintro e w' ⟨rfl, rfl⟩)))
      go_ret2
      exact SBOn.nil ES.out (Below.refl _ _)
  · have hr' : rightB xs = false := by simpa using hr
    have ea : agB xs ys = false := by rw [agB, hr']; simp
    have ES : Hid (agB xs ys = false) := ea
    clear ea hr
    go_enter Try.func32, Try.ntmps32
    go_wp2_with (first
      | (go_at_call 65; ((with_reducible refine (rightP a cap xs _ h).mono ?_); rintro e w' ⟨rfl, rfl⟩))
      | (go_at_call 65; ((with_reducible refine (rightP a2 cap2 ys _ g).mono ?_); rintro e w' ⟨rfl, rfl⟩)))
    go_ret2
    exact SBOn.nil ES.out (Below.refl _ _)
end Go.Proofs.Ytekbdiniibmhgaa.Shp
