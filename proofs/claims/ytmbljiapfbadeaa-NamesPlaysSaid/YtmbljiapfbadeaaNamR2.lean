/-
  Layer 11: the reference's at, Names.
-/
import Derived.Test.YtmbljiapfbadeaaNamR1
namespace Go.Proofs.Ytmbljiapfbadeaa.Nam
open Go.RowKit Go.Maps
set_option linter.unusedVariables false

def posI (ds : List Def) (s : ByteArray) : Int := match pos ds s with
  | some j => (j : Int)
  | none => -1
theorem pos_of {ds : List Def} {s : ByteArray} {j : Nat} (hj : j < ds.length) (h1 : ds[j].1 = s) (h2 : ∀ i (hi : i < j), ds[i].1 ≠ s) : pos ds s = some j :=
  List.findIdx?_eq_some_iff_getElem.2 ⟨hj, by simpa using h1, fun i hi => by simpa using h2 i hi⟩
theorem pos_of_none {ds : List Def} {s : ByteArray} (h : ∀ i (hi : i < ds.length), ds[i].1 ≠ s) : pos ds s = none :=
  List.findIdx?_eq_none_iff.2 fun x hx => by
    obtain ⟨i, hi, rfl⟩ := List.getElem_of_mem hx
    simpa using h i hi
set_option maxRecDepth 100000 in
set_option maxHeartbeats 4000000 in
theorem at0 (w : World) (base b : Nat) (out : Option Nat) (vn vc : Value) (ds : List Def) (h : RSc w base b out vn vc ds) (s : ByteArray) (hs : s.size ≤ maxLen) (hl : ds.length ≤ 1000) (r : Int) (hr : posI ds s = r) :
    Calls Try.prog 24 #[.pointer (some ⟨b, 0, none⟩), .string s] w fun e w' => e = .returned (.int .i64 r) ∧ Below w.heap.size w w' := by
  have hr' := Lib.hid hr
  clear hr
  obtain ⟨c0, c1, c2, ff⟩ := h.cells
  obtain ⟨a2, k2, rfl, hi2, hc2⟩ := h.nm.row
  go_enter Try.func24, Try.ntmps24
  go_wp2
  go_loopw [5] (fun i wr => ∃ k : Nat, k ≤ ds.length ∧ i = .int .i64 (k : Int) ∧ Hid (∀ q (hq : q < ds.length), q < k → ds[q].1 ≠ s) ∧ wr = w) (fun i _ => ds.length - (intOf i).toNat)
  case atStart => exact ⟨0, Nat.zero_le _, rfl, Lib.hid fun q _ hq => absurd hq (by omega), rfl⟩
  case round =>
    obtain ⟨k, hk, rfl, ha, rfl⟩ := hrel
    by_cases hlt : k < ds.length
    · have hlt' : (k : Int) < (ds.length : Int) := by omega
      obtain ⟨p, rfl, hc⟩ := hc2 _ h.nm k hlt
      have hi := fun w' => hi2 w' k hlt
      simp only [Option.map_some] at hi
      have hyes : Hid (ds[k].1 = s → posI ds s = (k : Int)) := fun e => by
        rw [posI, pos_of hlt e fun i hi => ha.out i (by omega) hi]
      have hno : Hid (¬ ds[k].1 = s → Hid (∀ q (hq : q < ds.length), q < k + 1 → ds[q].1 ≠ s)) := fun e q hq hq1 => by
        rcases Nat.lt_or_ge q k with h5 | h5
        · exact ha.out q hq h5
        · obtain rfl : q = k := by omega
          exact e
      clear hc2
      generalize ds[k].1 = y at *
      by_cases e : y = s
      · obtain rfl : (k : Int) = r := (hyes.out e).symm.trans hr'.out
        subst e
        clear hyes hno ha hr'
        go_wp2
        go_ret
        exact ⟨rfl, Below.refl _ _⟩
      · have hne := str_ne e
        have hn2 := hno.out e
        clear hyes hno ha e
        go_wp2
        go_roundw
        case rel => exact ⟨k + 1, by omega, by go_num, hn2, by first | rfl | trivial⟩
        case measure => simp [intOf]; omega
    · have ek : k = ds.length := by omega
      subst ek
      have hn0 : ¬ (ds.length : Int) < (ds.length : Int) := by omega
      obtain rfl : (-1 : Int) = r := by
        rw [← hr'.out, posI, pos_of_none fun i hi => ha.out i hi hi]
      clear ha hr'
      go_wp2
      go_ret
      exact ⟨rfl, Below.refl _ _⟩
theorem app_nil (ty : TypeId) (g : Nat) (w : World) : (Builtin.append_ #[39, 39] ty #[.slice (some ⟨g, 0, none⟩) 0 0, .slice none 0 0]).run Try.prog w = .ok (.slice (some ⟨g, 0, none⟩) 0 0) w := by kernel_rfl
theorem want_split {w : World} {base : Nat} {v : Value} {L : List ByteArray} (h : Want w base v L) : (v = .slice none 0 0 ∧ L = []) ∨ ∃ g c, v = .slice (some ⟨g, 0, none⟩) L.length c ∧ ∀ j u, (L.map Value.string)[j]? = some u → w.cell? ⟨g, j, none⟩ = some u := by
  have hs := h.sat
  obtain ⟨h1, h2⟩ := h
  rcases h2 with ⟨rfl, h0⟩ | ⟨g, cap, cur, rfl, hg, hh, hn, hc, hsz, ht⟩
  · exact Or.inl ⟨rfl, List.eq_nil_of_length_eq_zero h0⟩
  · refine Or.inr ⟨g, cap, rfl, fun j u hu => ?_⟩
    obtain ⟨a, c, e, _, _, h3⟩ := hs
    simp only [Value.slice.injEq] at e
    obtain ⟨rfl, -, rfl⟩ := e
    rw [List.getElem?_map] at hu
    obtain ⟨s, hs, rfl⟩ := Option.map_eq_some_iff.1 hu
    obtain ⟨hj, rfl⟩ := List.getElem?_eq_some_iff.1 hs
    obtain ⟨p, e, hc⟩ := h3 j hj
    cases e
    rw [Nat.zero_add] at hc
    exact hc
section
variable (w : World) {ops : Array Oper} {rest : List Oper} {o : Oper} {a : Act} {Q : Exit → Act → World → Prop}
/-- 'append([]string{}, s.names...)'. -/
theorem copy_push (hgd : o.guard = none) (s x : Operand) (ho : o.op = .call { callee := .builtin .append, args := #[s, x], argTypes := #[39, 39] })
    (hs : a.eval s = .slice (some ⟨w.heap.size, 0, none⟩) 0 0) (L : List ByteArray) (g c : Nat) (hx : a.eval x = .slice (some ⟨g, 0, none⟩) L.length c) (hL : L.length ≤ 1000) (hc : ∀ j u, (L.map Value.string)[j]? = some u → w.cell? ⟨g, j, none⟩ = some u)
    (hK : ∀ v' w', Want w' w.heap.size v' L → Below w.heap.size w w' → wpList Try.prog ops Q rest (a.put o.dst v') w') :
    wpList Try.prog ops Q (o :: rest) a (w.alloc (.cells #[] 9)) := by
  obtain ⟨i0, hi, hz0, hz1, hz2⟩ := info_parts infoStr
  have h0 := Want.made w w.heap.size (Nat.le_refl _)
  have hcw : ∀ j u, (L.map Value.string)[j]? = some u → (w.alloc (.cells #[] 9)).cell? ((⟨g, 0, none⟩ : Addr).add j) = some u := fun j u hu => by
    have := hc j u hu
    rw [add_plain, Nat.zero_add]
    exact ((below_new w _).cell (p := ⟨g, j, none⟩) (cell_lt this)).trans this
  refine wpList_append_own_at _ hgd _ _ 39 ho w.heap.size 9 i0 (.string ⟨#[]⟩) 1 16 Try.underlying39 hi hz0 hz1 hz2 rfl (by decide) _ 0 [] hs h0 ⟨g, 0, none⟩ L.length c (L.map Value.string) hx (by simp) hcw (fun u hu => by obtain ⟨y, _, rfl⟩ := List.mem_map.1 hu; rfl) (by unfold maxLen; omega) (by omega) (by simp) ?_
  intro v' w' h1 h2 _ _
  refine hK v' w' ?_ ?_
  · unfold Want
    rw [Nat.zero_add] at h1
    exact h1
  · exact (below_new w _).grown h2 (by simp) fun k hk => by cases hk; exact Nat.le_refl _
end
set_option maxRecDepth 100000 in
set_option maxHeartbeats 4000000 in
theorem namesR (w : World) (base b : Nat) (out : Option Nat) (vn vc : Value) (ds : List Def) (h : RSc w base b out vn vc ds) (hl : ds.length ≤ 1000) :
    Calls Try.prog 19 #[.pointer (some ⟨b, 0, none⟩)] w fun e w' => ∃ v, e = .returned v ∧ Want w' w.heap.size v (namesOf ds) ∧ Below w.heap.size w w' := by
  obtain ⟨c0, c1, c2, ff⟩ := h.cells
  have hnl : (namesOf ds).length ≤ 1000 := by rw [names_len]; exact hl
  have hap := app_nil
  rcases want_split h.nm with ⟨rfl, e⟩ | ⟨g, c, rfl, hc⟩
  · have V := Want.made w w.heap.size (Nat.le_refl _)
    rw [← e] at V
    have d1 := ((below_new w (.cells #[] 9)).cell (p := ⟨b, 1, none⟩) h.lt).trans c1
    clear e
    go_enter Try.func19, Try.ntmps19
    go_wp2
    go_ret
    exact ⟨_, rfl, V, below_new _ _⟩
  · have d1 := ((below_new w (.cells #[] 9)).cell (p := ⟨b, 1, none⟩) h.lt).trans c1
    generalize namesOf ds = L at *
    go_enter Try.func19, Try.ntmps19
    go_wp2_with (at_builtin; refine copy_push _ rfl _ _ rfl rfl L g c rfl hnl hc ?_; intro v3 w3 V3 b3)
    go_ret
    exact ⟨_, rfl, V3, b3⟩
set_option maxRecDepth 100000 in
set_option maxHeartbeats 2000000 in
theorem namesRN (w : World) : Calls Try.prog 19 #[.pointer none] w fun e w' => e = .returned (.slice none 0 0) ∧ Below w.heap.size w w' := by
  go_enter Try.func19, Try.ntmps19
  go_wp2
  go_ret
  exact ⟨rfl, Below.refl _ _⟩
end Go.Proofs.Ytmbljiapfbadeaa.Nam
