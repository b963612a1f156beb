/-
  Layer 11: the reference's scope in memory; its New, Open, Depth, Valid, at.
-/
import Derived.Test.YtmbljiapfbadeaaNamOrder
namespace Go.Proofs.Ytmbljiapfbadeaa.Nam
open Go.RowKit Go.Maps
set_option linter.unusedVariables false

def classesOf (ds : List Def) : List Int := ds.map (·.2)
theorem classes_len (ds : List Def) : (classesOf ds).length = ds.length := by simp [classesOf]
theorem classes_app (ds : List Def) (s : ByteArray) (c : Int) : classesOf (ds ++ [(s, c)]) = classesOf ds ++ [c] := by simp [classesOf]
def Cls (w : World) (base : Nat) (v : Value) (L : List Int) : Prop := w.ownsRow base 30 1 v L.length (L.map (Value.int .i64))
theorem Cls.kept {w w' : World} {base : Nat} {v : Value} {L : List Int} (h : Cls w base v L) (hk : ∀ g, v.ownBlock = some g → w'.heap[g]? = w.heap[g]?) : Cls w' base v L := by
  obtain ⟨h1, h2⟩ := h
  refine ⟨h1, ?_⟩
  rcases h2 with h2 | ⟨g, cap, cur, hv, hg, hh, r⟩
  · exact Or.inl h2
  · exact Or.inr ⟨g, cap, cur, hv, hg, (hk g (by rw [hv]; rfl)).trans hh, r⟩
theorem Cls.block {w : World} {base : Nat} {v : Value} {L : List Int} (h : Cls w base v L) {g : Nat} (hg : v.ownBlock = some g) : base ≤ g ∧ ∃ cur, w.heap[g]? = some (.cells cur 30 (0, 0)) := by
  obtain ⟨h1, h2⟩ := h
  rcases h2 with ⟨rfl, _⟩ | ⟨g', cap, cur, rfl, hb, hh, r⟩
  · cases hg
  · obtain rfl : g' = g := Option.some.inj hg
    exact ⟨hb, cur, hh⟩
theorem Cls.below {w w' : World} {base : Nat} {v : Value} {L : List Int} (h : Cls w base v L) (hb : Below w.heap.size w w') : Cls w' base v L := h.kept fun g hg => by
  obtain ⟨_, cur, hc⟩ := h.block hg
  exact hb.block g (heap_lt hc)
theorem elemCls : Try.prog.underlying 47 = some (.slice (Try.prog.elem 47)) := by kernel_rfl
theorem sizeCls (w : World) : (sizeOf (Try.prog.elem 47)).run Try.prog w = .ok 1 w := by kernel_rfl
theorem infoCls : (Try.prog.info? 30).map (fun i => (i.zero, i.size, i.bytes)) = some (some (.int .i64 0), 1, 8) := by kernel_rfl
theorem Cls.at {w : World} {base : Nat} {v : Value} {L : List Int} (h : Cls w base v L) {j : Nat} (hj : j < L.length) :
    ∃ g c, v = .slice (some ⟨g, 0, none⟩) L.length c ∧ (∀ w' : World, (Instr.indexAt 47 (.slice (some ⟨g, 0, none⟩) L.length c) (.int .i64 (j : Int))).run Try.prog w' = .ok (.pointer (some ⟨g, j, none⟩)) w') ∧ w.cell? ⟨g, j, none⟩ = some (.int .i64 L[j]) := by
  obtain ⟨h1, h2⟩ := h
  rcases h2 with ⟨rfl, h0⟩ | ⟨g, cap, cur, rfl, hg, hh, hn, hc, hs, ht⟩
  · omega
  · refine ⟨g, cap, rfl, fun w' => ?_, ?_⟩
    · rw [run_indexAt_slice w' _ _ _ _ .i64 j elemCls, if_pos (by omega), sizeCls]
      show Result.ok _ w' = _
      rw [show ((j : Int).toNat * 1) = j by omega, add_plain, Nat.zero_add]
    · have hj2 : j < cur.size := by rw [hs]; omega
      have e : cur[j]? = some (.int .i64 L[j]) := by
        have e1 := congrArg (fun l => l[j]?) ht
        simp only [Nat.mul_one, List.getElem?_take, if_pos hj, List.getElem?_map, List.getElem?_eq_getElem hj, Option.map_some] at e1
        rw [← e1, Array.getElem?_toList]
      simp [World.cell?, hh, e]
/-- The reference's scope. -/
structure RSc (w : World) (base b : Nat) (out : Option Nat) (vn vc : Value) (ds : List Def) : Prop where
  blk : w.heap[b]? = some (.cells #[ptr out, vn, vc] 49 (0, 0))
  nm : Want w base vn (namesOf ds)
  cl : Cls w base vc (classesOf ds)
theorem RSc.cells {w : World} {base b : Nat} {out : Option Nat} {vn vc : Value} {ds : List Def} (h : RSc w base b out vn vc ds) :
    w.cell? ⟨b, 0, none⟩ = some (ptr out) ∧ w.cell? ⟨b, 1, none⟩ = some vn ∧ w.cell? ⟨b, 2, none⟩ = some vc ∧ ∀ j, w.frozen? ⟨b, j, none⟩ = false := by
  have := h.blk
  refine ⟨?_, ?_, ?_, fun j => ?_⟩ <;> simp [World.cell?, World.frozen?, this]
theorem RSc.lt {w : World} {base b : Nat} {out : Option Nat} {vn vc : Value} {ds : List Def} (h : RSc w base b out vn vc ds) : b < w.heap.size := heap_lt h.blk
theorem RSc.below {w w' : World} {base b : Nat} {out : Option Nat} {vn vc : Value} {ds : List Def} (h : RSc w base b out vn vc ds) (hb : Below w.heap.size w w') : RSc w' base b out vn vc ds :=
  ⟨(hb.block b h.lt).trans h.blk, h.nm.below hb, h.cl.below hb⟩
theorem RSc.ne {w : World} {base b : Nat} {out : Option Nat} {vn vc : Value} {ds : List Def} (h : RSc w base b out vn vc ds) : vn.ownBlock ≠ some b ∧ vc.ownBlock ≠ some b ∧ ∀ g, vn.ownBlock = some g → vc.ownBlock ≠ some g := by
  refine ⟨fun e => ?_, fun e => ?_, fun g e1 e2 => ?_⟩
  · obtain ⟨_, cur, hc⟩ := h.nm.block e
    rw [h.blk] at hc
    cases hc
  · obtain ⟨_, cur, hc⟩ := h.cl.block e
    rw [h.blk] at hc
    cases hc
  · obtain ⟨_, cur, hc⟩ := h.nm.block e1
    obtain ⟨_, cur2, hc2⟩ := h.cl.block e2
    rw [hc] at hc2
    cases hc2
theorem Want.nil (w : World) (base : Nat) : Want w base (.slice none 0 0) [] := ⟨rfl, Or.inl ⟨rfl, rfl⟩⟩
theorem Cls.nil (w : World) (base : Nat) : Cls w base (.slice none 0 0) [] := ⟨rfl, Or.inl ⟨rfl, rfl⟩⟩
theorem rsc_new (w : World) (base : Nat) (out : Option Nat) : RSc (w.alloc (.cells #[ptr out, .slice none 0 0, .slice none 0 0] 49)) base w.heap.size out (.slice none 0 0) (.slice none 0 0) [] :=
  ⟨heap_alloc_new w _, Want.nil _ _, Cls.nil _ _⟩
set_option maxRecDepth 100000 in
set_option maxHeartbeats 2000000 in
theorem newR (w : World) (base : Nat) : Calls Try.prog 8 #[] w fun e w' => e = .returned (.pointer (some ⟨w.heap.size, 0, none⟩)) ∧ RSc w' base w.heap.size none (.slice none 0 0) (.slice none 0 0) [] ∧ Below w.heap.size w w' := by
  go_enter Try.func8, Try.ntmps8
  go_wp2
  go_ret
  exact ⟨rfl, rsc_new w base none, below_new _ _⟩
set_option maxRecDepth 100000 in
set_option maxHeartbeats 2000000 in
theorem openR (w : World) (base b : Nat) : Calls Try.prog 10 #[.pointer (some ⟨b, 0, none⟩)] w fun e w' => e = .returned (.pointer (some ⟨w.heap.size, 0, none⟩)) ∧ RSc w' base w.heap.size (some b) (.slice none 0 0) (.slice none 0 0) [] ∧ Below w.heap.size w w' := by
  go_enter Try.func10, Try.ntmps10
  go_wp2
  go_ret
  exact ⟨rfl, rsc_new w base (some b), below_new _ _⟩
set_option maxRecDepth 100000 in
set_option maxHeartbeats 2000000 in
theorem openRN (w : World) : Calls Try.prog 10 #[.pointer none] w fun e w' => e = .returned (.pointer none) ∧ Below w.heap.size w w' := by
  go_enter Try.func10, Try.ntmps10
  go_wp2
  go_ret
  exact ⟨rfl, Below.refl _ _⟩
set_option maxRecDepth 100000 in
set_option maxHeartbeats 4000000 in
theorem valid0 (w : World) (s : ByteArray) (hs : s.size ≤ 9223372036854775807) (r : Bool) (hr : okName s = r) : Calls Try.prog 23 #[.string s] w fun e w' => e = .returned (.bool r) ∧ Below w.heap.size w w' := by
  by_cases h0 : s.size = 0
  · have hx : ((s.size : Int) == 0) = true := by simp [h0]
    obtain rfl : r = false := hr.symm.trans <| okName_no (Or.inl (by omega))
    clear hr
    go_enter Try.func23, Try.ntmps23
    go_wp2
    go_ret
    exact ⟨rfl, Below.refl _ _⟩
  · have hx : ((s.size : Int) == 0) = false := beq_eq_false_iff_ne.2 (by omega)
    by_cases h1 : s.size ≤ 32
    · have h1' : ¬ (32 : Int) < (s.size : Int) := by omega
      go_enter Try.func23, Try.ntmps23
      go_wp2
      go_loopw [3] (fun i wr => ∃ k : Nat, k ≤ s.size ∧ i = .int .i64 (k : Int) ∧ Hid (k ≠ 0 → isL s 0 = true) ∧ Hid (∀ i, i < k → isL s i = true ∨ isD s i = true) ∧ Below w.heap.size w wr) (fun i _ => s.size - (intOf i).toNat)
      case atStart => exact ⟨0, Nat.zero_le _, rfl, Lib.hid (fun h => absurd rfl h), Lib.hid fun i hi => absurd hi (by omega), Below.refl _ _⟩
      case round =>
        obtain ⟨k, hk, rfl, hl, ha, Bw⟩ := hrel
        by_cases hlt : k < s.size
        · have hlt' : (k : Int) < (s.size : Int) := by omega
          have eL := isL_at hlt
          have eD := isD_at hlt
          have hH : Hid (∀ q, isL s k = true ∨ (k ≠ 0 ∧ isD s k = true) → q < k + 1 → (q = 0 → isL s q = true) ∧ (isL s q = true ∨ isD s q = true)) := fun q hh hq => by
            rcases Nat.lt_or_ge q k with h5 | h5
            · exact ⟨fun e => by subst e; exact hl.out (by omega), ha.out q h5⟩
            · obtain rfl : q = k := by omega
              rcases hh with h6 | h6
              · exact ⟨fun _ => h6, Or.inl h6⟩
              · exact ⟨fun e => absurd e h6.1, Or.inr h6.2⟩
          have hB : Hid (isL s k = false → (k = 0 ∨ isD s k = false) → r = false) := fun q1 q2 => by
            rw [← hr]
            rcases q2 with q2 | q2
            · subst q2
              exact okName_no (Or.inr (Or.inr (Or.inl q1)))
            · exact okName_no (Or.inr (Or.inr (Or.inr ⟨k, hlt, q1, q2⟩)))
          have hbyte : (s[k].toNat : Int) ≤ 255 := by have := s[k].toNat_lt; omega
          have hcls : (97 ≤ (s[k].toNat : Int) ∧ (s[k].toNat : Int) ≤ 122) ∨ (48 ≤ (s[k].toNat : Int) ∧ (s[k].toNat : Int) ≤ 57) ∨ (s[k].toNat : Int) < 48 ∨ (57 < (s[k].toNat : Int) ∧ (s[k].toNat : Int) < 97) ∨ 122 < (s[k].toNat : Int) := by omega
          rcases hcls with ⟨g1, g2⟩ | ⟨g1, g2⟩ | g1 | ⟨g1, g2⟩ | g1
          · have eL' : isL s k = true := by rw [← eL]; simp; omega
            have g3 : 48 ≤ (s[k].toNat : Int) := by omega
            have g4 : ¬ (s[k].toNat : Int) ≤ 57 := by omega
            have hN : Hid (isL s 0 = true ∧ Hid (∀ i, i < k + 1 → isL s i = true ∨ isD s i = true)) := ⟨(hH.out 0 (Or.inl eL') (by omega)).1 rfl, fun i hi => (hH.out i (Or.inl eL') hi).2⟩
            clear hl ha hH hB eL eD
            go_wp2
            go_roundw
            case rel => exact ⟨k + 1, by omega, by go_num, Lib.hid (fun _ => hN.out.1), hN.out.2, Bw⟩
            case measure => simp [intOf]; omega
          · have g3 : ¬ 97 ≤ (s[k].toNat : Int) := by omega
            have g4 : ¬ 122 < (s[k].toNat : Int) := by omega
            have eD' : isD s k = true := by rw [← eD]; simp; omega
            have eL' : isL s k = false := by rw [← eL]; simp; omega
            by_cases hk0 : k = 0
            · obtain rfl := hB.out eL' (Or.inl hk0)
              have hk1 : ((k : Int) == 0) = true := by rw [hk0]; rfl
              clear hk0 eL' eD'
              clear hl ha hH hB eL eD hr
              go_wp2
              go_ret
              exact ⟨rfl, Bw⟩
            · have hk1 : ((k : Int) == 0) = false := beq_eq_false_iff_ne.2 (by omega)
              have hN : Hid (isL s 0 = true ∧ Hid (∀ i, i < k + 1 → isL s i = true ∨ isD s i = true)) := ⟨(hH.out 0 (Or.inr ⟨hk0, eD'⟩) (by omega)).1 rfl, fun i hi => (hH.out i (Or.inr ⟨hk0, eD'⟩) hi).2⟩
              clear hk0 eL' eD'
              clear hl ha hH hB eL eD
              go_wp2
              go_roundw
              case rel => exact ⟨k + 1, by omega, by go_num, Lib.hid (fun _ => hN.out.1), hN.out.2, Bw⟩
              case measure => simp [intOf]; omega
          · have g3 : ¬ 97 ≤ (s[k].toNat : Int) := by omega
            have g4 : ¬ 48 ≤ (s[k].toNat : Int) := by omega
            obtain rfl := hB.out (by rw [← eL]; simp; omega) (Or.inr (by rw [← eD]; simp; omega))
            by_cases hk0 : k = 0
            · have hk1 : ((k : Int) == 0) = true := by rw [hk0]; rfl
              clear hk0
              clear hl ha hH hB eL eD hr
              go_wp2
              go_ret
              exact ⟨rfl, Bw⟩
            · have hk1 : ((k : Int) == 0) = false := beq_eq_false_iff_ne.2 (by omega)
              clear hk0
              clear hl ha hH hB eL eD hr
              go_wp2
              go_ret
              exact ⟨rfl, Bw⟩
          · have g3 : ¬ 97 ≤ (s[k].toNat : Int) := by omega
            have g4 : 48 ≤ (s[k].toNat : Int) := by omega
            have g5 : ¬ (s[k].toNat : Int) ≤ 57 := by omega
            obtain rfl := hB.out (by rw [← eL]; simp; omega) (Or.inr (by rw [← eD]; simp; omega))
            by_cases hk0 : k = 0
            · have hk1 : ((k : Int) == 0) = true := by rw [hk0]; rfl
              clear hk0
              clear hl ha hH hB eL eD hr
              go_wp2
              go_ret
              exact ⟨rfl, Bw⟩
            · have hk1 : ((k : Int) == 0) = false := beq_eq_false_iff_ne.2 (by omega)
              clear hk0
              clear hl ha hH hB eL eD hr
              go_wp2
              go_ret
              exact ⟨rfl, Bw⟩
          · have g3 : 97 ≤ (s[k].toNat : Int) := by omega
            have g4 : 48 ≤ (s[k].toNat : Int) := by omega
            have g5 : ¬ (s[k].toNat : Int) ≤ 57 := by omega
            have g6 : ¬ (s[k].toNat : Int) ≤ 122 := by omega
            obtain rfl := hB.out (by rw [← eL]; simp; omega) (Or.inr (by rw [← eD]; simp; omega))
            by_cases hk0 : k = 0
            · have hk1 : ((k : Int) == 0) = true := by rw [hk0]; rfl
              clear hk0
              clear hl ha hH hB eL eD hr
              go_wp2
              go_ret
              exact ⟨rfl, Bw⟩
            · have hk1 : ((k : Int) == 0) = false := beq_eq_false_iff_ne.2 (by omega)
              clear hk0
              clear hl ha hH hB eL eD hr
              go_wp2
              go_ret
              exact ⟨rfl, Bw⟩
        · obtain rfl : s.size = k := by omega
          have hn0 : ¬ (s.size : Int) < (s.size : Int) := by omega
          obtain rfl : r = true := hr.symm.trans <| okName_yes (by omega) h1 (hl.out h0) ha.out
          go_wp2
          go_ret
          exact ⟨rfl, Bw⟩
    · have h1' : (32 : Int) < (s.size : Int) := by omega
      obtain rfl : r = false := hr.symm.trans <| okName_no (Or.inr (Or.inl (by omega)))
      clear hr
      go_enter Try.func23, Try.ntmps23
      go_wp2
      go_ret
      exact ⟨rfl, Below.refl _ _⟩
end Go.Proofs.Ytmbljiapfbadeaa.Nam
