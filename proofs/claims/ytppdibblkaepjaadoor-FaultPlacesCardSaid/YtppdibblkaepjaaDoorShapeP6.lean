/-
  Layer 2: the program's Same and Agree.
-/
import Derived.Test.YtppdibblkaepjaaDoorShapeP5
namespace Go.Proofs.YtppdibblkaepjaaDoor.Shape
open Go.RowKit

theorem lon_same {xs ys : List Int} (h : xs.length = ys.length) : lonB xs ys = sameB xs ys := by
  by_cases e : xs = ys
  · subst e
    rw [lonB, pre_yes (Nat.le_refl _) (fun _ _ _ => rfl)]; simp [sameB]
  · have key : ∀ {us vs : List Int}, us.length = vs.length → ¬ us = vs → preB us vs = false := by
      intro us vs hl hn
      simp only [preB, decide_eq_false_iff_not]
      exact fun hh => hn (List.ext_getElem hl (fun i h1 h2 => hh.2 i h1 h2))
    rw [lonB, key h e, key h.symm (fun h => e h.symm)]; simp [sameB, e]

theorem pre_same {xs ys : List Int} (h : ys.length ≤ xs.length) : preB xs ys = sameB (xs.take (min xs.length ys.length)) (ys.take (min xs.length ys.length)) := by
  rw [Nat.min_eq_right h, List.take_length, Bool.eq_iff_iff, preB, sameB, decide_eq_true_eq, decide_eq_true_eq]
  constructor
  · rintro ⟨_, hh⟩
    refine List.ext_getElem (by rw [List.length_take]; omega) (fun i h1 h2 => ?_)
    rw [List.getElem_take]; exact hh i (by omega) h2
  · intro e
    refine ⟨h, fun j h1 h2 => ?_⟩
    have hj : j < (xs.take ys.length).length := by rw [List.length_take]; omega
    have e2 : (xs.take ys.length)[j] = ys[j] := by simp only [e]
    rw [List.getElem_take] at e2; exact e2
theorem pre_anti {xs ys : List Int} (h : preB ys xs = true) (hl : ys.length ≤ xs.length) : preB xs ys = true := by
  rw [preB, decide_eq_true_eq] at h ⊢
  exact ⟨hl, fun j h1 h2 => (h.2 j h2 h1).symm⟩
theorem sameB_comm (xs ys : List Int) : sameB ys xs = sameB xs ys := by
  unfold sameB; rw [Bool.eq_iff_iff, decide_eq_true_eq, decide_eq_true_eq]; exact ⟨Eq.symm, Eq.symm⟩
/-- For valid shapes: they agree just where one is a prefix of the other. -/
theorem ag_lon {xs ys : List Int} (h1 : rightB xs = true) (h2 : rightB ys = true) : agB xs ys = lonB xs ys ∧ agL xs ys = lonL xs ys := by
  have e0 : agB xs ys = sameB (xs.take (min xs.length ys.length)) (ys.take (min xs.length ys.length)) := by rw [agB, h1, h2]; rfl
  by_cases hl : ys.length ≤ xs.length
  · rw [← pre_same hl] at e0
    have e1 : lonB xs ys = preB xs ys := by
      rw [lonB]
      cases hp : preB xs ys with
      | true => rfl
      | false =>
        cases hq : preB ys xs with
        | false => rfl
        | true => rw [pre_anti hq hl] at hp; cases hp
    refine ⟨by rw [e0, e1], ?_⟩
    rw [agL, e0, lonL]
    cases hp : preB xs ys with
    | true => simp [hl]
    | false =>
      cases hq : preB ys xs with
      | false => rfl
      | true => rw [pre_anti hq hl] at hp; cases hp
  · have hp : preB xs ys = false := pre_no_len (by omega)
    have e1 : sameB (xs.take (min xs.length ys.length)) (ys.take (min xs.length ys.length)) = preB ys xs := by
      rw [pre_same (by omega : xs.length ≤ ys.length), sameB_comm, Nat.min_comm]
    rw [e1] at e0
    refine ⟨by rw [e0, lonB, hp]; rfl, ?_⟩
    rw [agL, e0, lonL, hp]
    cases hq : preB ys xs with
    | true => simp [hl]
    | false => rfl

theorem sameP (a : Option Addr) (cap : Nat) (xs : List Int) (a2 : Option Addr) (cap2 : Nat) (ys : List Int) (w : World) (h : IntsAt w a cap xs) (g : IntsAt w a2 cap2 ys) :
    Calls Tryd.prog 24 #[.slice a xs.length cap, .slice a2 ys.length cap2] w fun e w' => e = .returned (.bool (sameB xs ys)) ∧ Below w.heap.size w w' := by
  have hl := h.len
  have hl2 := g.len
  by_cases hn : xs.length = ys.length
  · have hn' : ((xs.length : Int) != (ys.length : Int)) = false := by rw [hn]; simp
    have HC := longerP a cap xs a2 cap2 ys w h g
    rw [lon_same hn] at HC
    generalize lonL xs ys = L at HC
    clear hn
    go_enter Tryd.func24, Tryd.ntmps24
    go_wp2_with (go_at_call 33; refine HC.mono ?_; rintro e w' ⟨a', c', rfl, hin, hb⟩)
    go_ret
    exact ⟨rfl, hb⟩
  · have em := same_len hn
    have hn' : ((xs.length : Int) != (ys.length : Int)) = true := by simp; omega
    clear hn
    go_enter Tryd.func24, Tryd.ntmps24
    go_wp2
    go_ret
    first | exact ⟨rfl, Below.refl _ _⟩ | exact ⟨ret_bool em.symm, Below.refl _ _⟩

/-! ### append([]int{}, xs...) -/
theorem run_append_lit {w0 w : World} {a : Option Addr} {cap : Nat} {xs : List Int} (ty : TypeId) (hw : w = w0.alloc (.cells #[] 3)) (h : IntsAt w a cap xs) (hr : xs.length ≤ 8) :
    ∃ a' c' w', (Builtin.append_ #[29, 29] ty #[.slice (some ⟨w0.heap.size, 0, none⟩) 0 0, .slice a xs.length cap]).run Tryd.prog w = .ok (.slice a' xs.length c') w' ∧ IntsAt w' a' c' xs ∧ Below w0.heap.size w w' := by
  obtain ⟨i0, hi, hz0, hz1, hz2⟩ := info_parts intInfo
  have hown : w.ownsRow w0.heap.size 3 1 (.slice (some ⟨w0.heap.size, 0, none⟩) 0 0) 0 [] :=
    ⟨rfl, Or.inr ⟨w0.heap.size, 0, #[], rfl, Nat.le_refl _, by subst hw; show (w0.heap.push _)[w0.heap.size]? = _; simp, Nat.le_refl _, by unfold maxLen; omega, rfl, rfl⟩⟩
  have hsz : w0.heap.size ≤ w.heap.size := by subst hw; simp
  have h0 := h
  obtain ⟨h1, h2, h3, b, off, ha, hc⟩ := h
  have go : ∀ ad : Addr, a = some ad → (∀ j u, (xs.map (Value.int .i64))[j]? = some u → w.cell? (ad.add j) = some u) →
      ∃ a' c' w', (Builtin.append_ #[29, 29] ty #[.slice (some ⟨w0.heap.size, 0, none⟩) 0 0, .slice a xs.length cap]).run Tryd.prog w = .ok (.slice a' xs.length c') w' ∧ IntsAt w' a' c' xs ∧ Below w0.heap.size w w' := by
    intro ad hA hcell
    subst hA
    obtain ⟨v', w', hrun, hown', hgrow, _⟩ := run_append_own (P := Tryd.prog) w w0.heap.size 29 ty 3 i0 (.int .i64 0) 1 8 Tryd.underlying29 hi hz0 hz1 hz2 rfl (by decide) _ 0 [] hown
      ad xs.length cap (xs.map (Value.int .i64)) (by simp) hcell (by intro u hu; obtain ⟨x, _, rfl⟩ := List.mem_map.1 hu; rfl) (by unfold maxLen; omega) (by omega) hsz
    simp only [Nat.zero_add, List.nil_append] at hown'
    obtain ⟨a', c', rfl, hon⟩ := IntsAt.own hown' rfl h3
    exact ⟨a', c', w', hrun, hon, (Below.refl _ _).grown hgrow hsz (fun k hk => by simp [Value.ownBlock] at hk; omega)⟩
  cases xs with
  | nil =>
    cases a with
    | none => exact ⟨some ⟨w0.heap.size, 0, none⟩, 0, w, by simp [Builtin.append_, run_underlying Tryd.underlying29, sizeOf, typeInfo, hi, Builtin.lenOf, Builtin.firstCells, storeCells], ⟨Nat.zero_le _, by decide, fun x hx => absurd hx (by simp), 0, 0, fun hn => absurd rfl hn, fun i hi => absurd hi (by simp)⟩, Below.refl _ _⟩
    | some ad => exact go ad rfl (by simp)
  | cons x r =>
    have e := ha (by simp)
    refine go _ e fun j u hj => ?_
    rw [add_plain]
    have hjl : j < (x :: r).length := by
      have := (List.getElem?_eq_some_iff.1 hj).1
      simpa using this
    rw [hc j hjl]
    rw [← hj, List.getElem?_map, List.getElem?_eq_getElem hjl]
    rfl
theorem wpList_append_lit {ops : Array Oper} {rest : List Oper} {o : Oper} {a : Act} {w : World} {Q : Exit → Act → World → Prop} (hgd : o.guard = none) (s x : Operand)
    (ho : o.op = .call { callee := .builtin .append, args := #[s, x], argTypes := #[29, 29] }) (w0 : World) (hw : w = w0.alloc (.cells #[] 3)) (hs : a.eval s = .slice (some ⟨w0.heap.size, 0, none⟩) 0 0)
    (ad : Option Addr) (c : Nat) (xs : List Int) (hx : a.eval x = .slice ad xs.length c) (hi : IntsAt w ad c xs) (hr : xs.length ≤ 8)
    (h : ∀ a' c' w', IntsAt w' a' c' xs → Below w0.heap.size w w' → wpList Tryd.prog ops Q rest (a.put o.dst (.slice a' xs.length c')) w') :
    wpList Tryd.prog ops Q (o :: rest) a w := by
  refine wpList_plain hgd fun K hK => ?_
  obtain ⟨a', c', w', hrun, h1, h2⟩ := run_append_lit o.type hw hi hr
  unfold Oper.wp execOp
  simp only [ho, resolve, invoke, builtin, Sem.run_bind, Sem.run_pure, Result.andThen_ok, List.map_toArray, List.map_cons, List.map_nil, hs, hx, hrun]
  exact hK _ _ (h a' c' w' h1 h2)

end Go.Proofs.YtppdibblkaepjaaDoor.Shape
