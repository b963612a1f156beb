/-
  Layer 11: the reference's Define.
-/
import Derived.Test.YtmbljiapfbadeaaNamR2
namespace Go.Proofs.Ytmbljiapfbadeaa.Nam
open Go.RowKit Go.Maps
set_option linter.unusedVariables false

/-- All blocks stand, save the scope's own. -/
structure ButR (b : Nat) (vn vc : Value) (w w' : World) : Prop where
  os : w'.os = w.os
  tape : w'.tape = w.tape
  output : w'.output = w.output
  size : w.heap.size ≤ w'.heap.size
  block : ∀ k, k < w.heap.size → k ≠ b → vn.ownBlock ≠ some k → vc.ownBlock ≠ some k → w'.heap[k]? = w.heap[k]?
theorem ButR.of {b : Nat} {vn vc : Value} {w w' : World} (h : Below w.heap.size w w') : ButR b vn vc w w' := ⟨h.os, h.tape, h.output, h.size, fun k hk _ _ _ => h.block k hk⟩
theorem ButR.below {b B : Nat} {vn vc : Value} {W w w' : World} (h : ButR b vn vc w w') (hb : B ≤ b) (hn : ∀ g, vn.ownBlock = some g → B ≤ g) (hc : ∀ g, vc.ownBlock = some g → B ≤ g) (hW : B ≤ W.heap.size) (hB : Below B W w) : Below B W w' :=
  ⟨h.os.trans hB.os, h.tape.trans hB.tape, h.output.trans hB.output, Nat.le_trans hB.size h.size, fun k hk => (h.block k (Nat.lt_of_lt_of_le hk (by have := hB.size; omega)) (by omega) (fun e => by have := hn k e; omega) (fun e => by have := hc k e; omega)).trans (hB.block k hk)⟩
/-- A new own block, or the old one. -/
def Own (w : World) (v v' : Value) : Prop := v'.ownBlock = v.ownBlock ∨ ∃ g, w.heap.size ≤ g ∧ v'.ownBlock = some g
theorem row_shape {w : World} {base : Nat} {e : TypeId} {size : Nat} {v : Value} {n : Nat} {xs : List Value} (h : w.ownsRow base e size v n xs) : ∃ ad m c, v = .slice ad m c := by
  obtain ⟨_, h2⟩ := h
  rcases h2 with ⟨rfl, _⟩ | ⟨g, cap, cur, rfl, _⟩
  · exact ⟨_, _, _, rfl⟩
  · exact ⟨_, _, _, rfl⟩
section
variable (w : World) {ops : Array Oper} {rest : List Oper} {o : Oper} {a : Act} {Q : Exit → Act → World → Prop}
theorem want_push2 (hgd : o.guard = none) (s x : Operand) (ho : o.op = .call { callee := .builtin .append, args := #[s, x], argTypes := #[39, 39] })
    (base : Nat) (v : Value) (L : List ByteArray) (hs : a.eval s = v) (hown : Want w base v L) (str : ByteArray) (hx : a.eval x = .slice (some ⟨w.heap.size, 0, none⟩) 1 1) (hL : L.length ≤ 1000) (hbase : base ≤ w.heap.size)
    (hK : ∀ (ad : Option Addr) (m c : Nat) w', Want w' base (.slice ad m c) (L ++ [str]) → w.grownBy w' v.ownBlock → Own w v (.slice ad m c) → wpList Try.prog ops Q rest (a.put o.dst (.slice ad m c)) w') :
    wpList Try.prog ops Q (o :: rest) a (w.alloc (.cells #[.string str] 9)) := by
  obtain ⟨i0, hi, hz0, hz1, hz2⟩ := info_parts infoStr
  have h0 : (w.alloc (.cells #[.string str] 9)).ownsRow base 9 1 v L.length (L.map Value.string) := hown.below (below_new _ _)
  refine wpList_append_own_at _ hgd _ _ 39 ho base 9 i0 (.string ⟨#[]⟩) 1 16 Try.underlying39 hi hz0 hz1 hz2 rfl (by decide) v L.length (L.map Value.string) hs h0 ⟨w.heap.size, 0, none⟩ 1 1 [.string str] hx rfl (cell_one_new _ _ _) (fun u hu => by simp at hu; subst hu; rfl) (by unfold maxLen; omega) (by omega) (by simp; omega) ?_
  intro v' w' h1 h2 _ h4
  obtain ⟨ad, m', c', rfl⟩ := row_shape h1
  refine hK ad m' c' w' ?_ ((World.grownBy_alloc w _ _).trans h2) ?_
  · unfold Want
    rw [List.map_append, List.length_append]
    exact h1
  · rcases h4 with h4 | h4
    · exact Or.inl h4
    · exact Or.inr ⟨_, by simp, h4⟩
theorem cls_push2 (hgd : o.guard = none) (s x : Operand) (ho : o.op = .call { callee := .builtin .append, args := #[s, x], argTypes := #[47, 47] })
    (base : Nat) (v : Value) (L : List Int) (hs : a.eval s = v) (hown : Cls w base v L) (c : Int) (g : Nat) (hx : a.eval x = .slice (some ⟨g, 0, none⟩) 1 1) (hgw : g = w.heap.size) (hL : L.length ≤ 1000) (hbase : base ≤ w.heap.size)
    (hK : ∀ (ad : Option Addr) (m k : Nat) w', Cls w' base (.slice ad m k) (L ++ [c]) → w.grownBy w' v.ownBlock → Own w v (.slice ad m k) → wpList Try.prog ops Q rest (a.put o.dst (.slice ad m k)) w') :
    wpList Try.prog ops Q (o :: rest) a (w.alloc (.cells #[.int .i64 c] 30)) := by
  subst hgw
  obtain ⟨i0, hi, hz0, hz1, hz2⟩ := info_parts infoCls
  have h0 : (w.alloc (.cells #[.int .i64 c] 30)).ownsRow base 30 1 v L.length (L.map (Value.int .i64)) := hown.below (below_new _ _)
  refine wpList_append_own_at _ hgd _ _ 47 ho base 30 i0 (.int .i64 0) 1 8 Try.underlying47 hi hz0 hz1 hz2 rfl (by decide) v L.length (L.map (Value.int .i64)) hs h0 ⟨w.heap.size, 0, none⟩ 1 1 [.int .i64 c] hx rfl (cell_one_new _ _ _) (fun u hu => by simp at hu; subst hu; rfl) (by unfold maxLen; omega) (by omega) (by simp; omega) ?_
  intro v' w' h1 h2 _ h4
  obtain ⟨ad, m', c', rfl⟩ := row_shape h1
  refine hK ad m' c' w' ?_ ((World.grownBy_alloc w _ _).trans h2) ?_
  · unfold Cls
    rw [List.map_append, List.length_append]
    exact h1
  · rcases h4 with h4 | h4
    · exact Or.inl h4
    · exact Or.inr ⟨_, by simp, h4⟩
end
/-- The scope's own block of three cells. -/
def RBlk (w : World) (b : Nat) (out : Option Nat) (vn vc : Value) : Prop := w.heap[b]? = some (.cells #[ptr out, vn, vc] 49 (0, 0))
theorem RBlk.cells {w : World} {b : Nat} {out : Option Nat} {vn vc : Value} (h : RBlk w b out vn vc) :
    w.cell? ⟨b, 1, none⟩ = some vn ∧ w.cell? ⟨b, 2, none⟩ = some vc ∧ w.frozen? ⟨b, 1, none⟩ = false ∧ w.frozen? ⟨b, 2, none⟩ = false := by
  unfold RBlk at h
  refine ⟨?_, ?_, ?_, ?_⟩ <;> simp [World.cell?, World.frozen?, h]
theorem RBlk.set1 {w : World} {b : Nat} {out : Option Nat} {vn vc : Value} (h : RBlk w b out vn vc) (v : Value) : RBlk (w.setCell ⟨b, 1, none⟩ v) b out v vc := by
  unfold RBlk at h ⊢
  simp only [World.setCell]
  rw [Array.getElem?_modify, if_pos rfl, h]
  simp
theorem RBlk.set2 {w : World} {b : Nat} {out : Option Nat} {vn vc : Value} (h : RBlk w b out vn vc) (v : Value) : RBlk (w.setCell ⟨b, 2, none⟩ v) b out vn v := by
  unfold RBlk at h ⊢
  simp only [World.setCell]
  rw [Array.getElem?_modify, if_pos rfl, h]
  simp
theorem RBlk.grown {w w' : World} {b : Nat} {out : Option Nat} {vn vc : Value} (h : RBlk w b out vn vc) {row : Option Nat} (hg : w.grownBy w' row) (hne : row ≠ some b) : RBlk w' b out vn vc := (hg.block b (heap_lt h) (fun e => hne e.symm)).trans h
theorem posI_some {ds : List Def} {s : ByteArray} (h : (pos ds s).isSome = true) : ∃ j : Nat, posI ds s = (j : Int) := by
  cases e : pos ds s with
  | none => rw [e] at h; cases h
  | some j => exact ⟨j, by rw [posI, e]⟩
theorem posI_none {ds : List Def} {s : ByteArray} (h : (pos ds s).isSome = false) : posI ds s = -1 := by
  cases e : pos ds s with
  | none => rw [posI, e]
  | some j => rw [e] at h; cases h
set_option maxRecDepth 100000 in
set_option maxHeartbeats 8000000 in
theorem defineR0 (w : World) (base b : Nat) (out : Option Nat) (vn vc : Value) (ds ds' : List Def) (h : RSc w base b out vn vc ds) (hbase : base ≤ w.heap.size) (s : ByteArray) (hs : s.size ≤ maxLen) (c r : Int) (hr : errD ds s c = r) (hd : addD ds s c = ds') (hl : ds.length ≤ 1000) :
    Calls Try.prog 12 #[.pointer (some ⟨b, 0, none⟩), .string s, .int .i64 c] w fun e w' => e = .returned (.int .i64 r) ∧ ∃ vn' vc', RSc w' base b out vn' vc' ds' ∧ ButR b vn vc w w' ∧ Own w vn vn' ∧ Own w vc vc' := by
  have hs' : s.size ≤ 9223372036854775807 := hs
  by_cases hc1 : c < 1
  · have e := errD_class (ds := ds) (s := s) (c := c) (by simp; omega)
    obtain rfl : r = 1 := hr.symm.trans e
    obtain rfl : ds = ds' := (addD_bad (by rw [e]; decide)).symm.trans hd
    clear hr hd e
    go_enter Try.func12, Try.ntmps12
    go_wp2
    go_ret
    exact ⟨rfl, vn, vc, h, ButR.of (Below.refl _ _), Or.inl rfl, Or.inl rfl⟩
  by_cases hc4 : 4 < c
  · have e := errD_class (ds := ds) (s := s) (c := c) (by simp; omega)
    obtain rfl : r = 1 := hr.symm.trans e
    obtain rfl : ds = ds' := (addD_bad (by rw [e]; decide)).symm.trans hd
    clear hr hd e
    go_enter Try.func12, Try.ntmps12
    go_wp2
    go_ret
    exact ⟨rfl, vn, vc, h, ButR.of (Below.refl _ _), Or.inl rfl, Or.inl rfl⟩
  have hc : decide (1 ≤ c ∧ c ≤ 4) = true := by simp; omega
  cases hn : okName s with
  | false =>
    have e := errD_name (ds := ds) hc hn
    obtain rfl : r = 9 := hr.symm.trans e
    obtain rfl : ds = ds' := (addD_bad (by rw [e]; decide)).symm.trans hd
    clear hr hd e
    go_enter Try.func12, Try.ntmps12
    go_wp2_with (go_at_call 23; (with_reducible refine (valid0 _ _ hs' _ hn).mono ?_); rintro e1 w2 ⟨rfl, b2⟩)
    go_ret
    exact ⟨rfl, vn, vc, h.below b2, ButR.of b2, Or.inl rfl, Or.inl rfl⟩
  | true =>
    cases hp : (pos ds s).isSome with
    | true =>
      have e := errD_dup (ds := ds) hc hn hp
      obtain rfl : r = 10 := hr.symm.trans e
      obtain rfl : ds = ds' := (addD_bad (by rw [e]; decide)).symm.trans hd
      obtain ⟨j, hj⟩ := posI_some hp
      have hj0 : 0 ≤ (j : Int) := by omega
      clear hr hd e
      go_enter Try.func12, Try.ntmps12
      go_wp2_with (first | (go_at_call 23; (with_reducible refine (valid0 _ _ hs' _ hn).mono ?_); rintro e1 w2 ⟨rfl, b2⟩) | (go_at_call 24; (with_reducible refine (at0 _ base b out vn vc ds (h.below b2) s hs hl _ hj).mono ?_); rintro e1 w3 ⟨rfl, b3⟩))
      go_ret
      exact ⟨rfl, vn, vc, (h.below b2).below b3, ButR.of (Below.then b2 b3), Or.inl rfl, Or.inl rfl⟩
    | false =>
      have e := errD_ok (ds := ds) hc hn hp
      obtain rfl : r = 0 := hr.symm.trans e
      obtain rfl : ds' = ds ++ [(s, c)] := hd.symm.trans (addD_ok e)
      have hj := posI_none hp
      have hnl : (namesOf ds).length ≤ 1000 := by rw [names_len]; exact hl
      have hcl : (classesOf ds).length ≤ 1000 := by rw [classes_len]; exact hl
      clear hr hd e
      go_enter Try.func12, Try.ntmps12
      go_wp2_with (first
        | (go_at_call 23; (with_reducible refine (valid0 _ _ hs' _ hn).mono ?_); rintro e1 w2 ⟨rfl, b2⟩)
        | (go_at_call 24; (with_reducible refine (at0 _ base b out vn vc ds (h.below b2) s hs hl _ hj).mono ?_); rintro e1 w3 ⟨rfl, b3⟩; have h3 := (h.below b2).below b3; have K3 : RBlk w3 b out vn vc := h3.blk; have c1 := K3.cells.1; have s3 : base ≤ w3.heap.size := Nat.le_trans hbase (Below.then b2 b3).size)
        | (at_builtin; refine want_push2 _ rfl _ _ rfl base _ _ rfl h3.nm s rfl hnl s3 ?_; intro a4 m4 k4 w4 V4 g4 o4; have K4 := K3.grown g4 h3.ne.1; have f1 := K4.cells.1; have f2 := K4.cells.2.1; have f3 := K4.cells.2.2.1; have K5 := K4.set1 (.slice a4 m4 k4); have j2 := K5.cells.2.1; have s5 : base ≤ (w4.setCell ⟨b, 1, none⟩ (.slice a4 m4 k4)).heap.size := Nat.le_trans s3 (by simpa [World.setCell] using g4.size); have C5 : Cls (w4.setCell ⟨b, 1, none⟩ (.slice a4 m4 k4)) base vc (classesOf ds) := h3.cl.kept (fun g hg => (Below.heap_setCell _ _ _ _ (fun e => h3.ne.2.1 (by rw [hg]; exact congrArg some e))).trans (g4.block g (heap_lt (h3.cl.block hg).2.choose_spec) (fun e => h3.ne.2.2 g e.symm hg))))
        | (at_builtin; refine cls_push2 _ rfl _ _ rfl base _ _ rfl C5 c _ rfl (by simp [World.setCell]) hcl s5 ?_; intro a6 m6 k6 w6 V6 g6 o6; have K6 := K5.grown g6 h3.ne.2.1; have l2 := K6.cells.2.1; have l3 := K6.cells.2.2.2))
      go_ret
      refine ⟨rfl, .slice a4 m4 k4, .slice a6 m6 k6, ⟨K6.set2 (.slice a6 m6 k6), ?_, ?_⟩, ?_, ?_, ?_⟩
      · have e1 : Want (w4.setCell ⟨b, 1, none⟩ (.slice a4 m4 k4)) base (.slice a4 m4 k4) (namesOf ds ++ [s]) := V4.kept fun g hg => Below.heap_setCell _ _ _ _ fun e => by
          obtain ⟨_, cur, hc⟩ := V4.block hg
          rw [e] at hc
          exact absurd (hc.symm.trans K4) (by simp)
        have e2 : Want w6 base (.slice a4 m4 k4) (namesOf ds ++ [s]) := e1.kept fun g hg => by
          obtain ⟨_, cur, hc⟩ := e1.block hg
          refine g6.block g (heap_lt hc) fun e => ?_
          obtain ⟨_, cur2, hc2⟩ := C5.block e.symm
          rw [hc] at hc2
          cases hc2
        rw [names_app]
        exact e2.kept fun g hg => Below.heap_setCell _ _ _ _ fun e => by
          obtain ⟨_, cur, hc⟩ := e2.block hg
          rw [e] at hc
          exact absurd (hc.symm.trans K6) (by simp)
      · rw [classes_app]
        exact V6.kept fun g hg => Below.heap_setCell _ _ _ _ fun e => by
          obtain ⟨_, cur, hc⟩ := V6.block hg
          rw [e] at hc
          exact absurd (hc.symm.trans K6) (by simp)
      · have B3 := Below.then b2 b3
        refine ⟨g6.os.trans (g4.os.trans B3.os), g6.tape.trans (g4.tape.trans B3.tape), g6.output.trans (g4.output.trans B3.output), ?_, fun k hk h1 h2 h3' => ?_⟩
        · have q1 := B3.size
          have q2 := g4.size
          have q3 := g6.size
          simp [World.setCell] at q3 ⊢
          omega
        · have q1 := B3.size
          have q2 := g4.size
          rw [Below.heap_setCell _ _ _ _ h1, g6.block k (by simp [World.setCell]; omega) (fun e => h3' e.symm), Below.heap_setCell _ _ _ _ h1, g4.block k (by omega) (fun e => h2 e.symm)]
          exact B3.block k hk
      · rcases o4 with e | ⟨g, hg, e⟩
        · exact Or.inl e
        · exact Or.inr ⟨g, by have := (Below.then b2 b3).size; omega, e⟩
      · rcases o6 with e | ⟨g, hg, e⟩
        · exact Or.inl e
        · exact Or.inr ⟨g, by have := (Below.then b2 b3).size; have := g4.size; simp [World.setCell] at hg; omega, e⟩
theorem defineR (w : World) (base b : Nat) (out : Option Nat) (vn vc : Value) (ds : List Def) (h : RSc w base b out vn vc ds) (hbase : base ≤ w.heap.size) (s : ByteArray) (hs : s.size ≤ maxLen) (c : Int) (hl : ds.length ≤ 1000) :
    Calls Try.prog 12 #[.pointer (some ⟨b, 0, none⟩), .string s, .int .i64 c] w fun e w' => e = .returned (.int .i64 (errD ds s c)) ∧ ∃ vn' vc', RSc w' base b out vn' vc' (addD ds s c) ∧ ButR b vn vc w w' ∧ Own w vn vn' ∧ Own w vc vc' :=
  defineR0 w base b out vn vc ds _ h hbase s hs c _ rfl rfl hl
set_option maxRecDepth 100000 in
set_option maxHeartbeats 2000000 in
theorem defineRN (w : World) (s : ByteArray) (c : Int) : Calls Try.prog 12 #[.pointer none, .string s, .int .i64 c] w fun e w' => e = .returned (.int .i64 1) ∧ Below w.heap.size w w' := by
  go_enter Try.func12, Try.ntmps12
  go_wp2
  go_ret
  exact ⟨rfl, Below.refl _ _⟩
end Go.Proofs.Ytmbljiapfbadeaa.Nam
