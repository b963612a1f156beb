/-
  Layer 4: what the reference's Pad makes of its parts: step laws and put from nothing.
-/
import Derived.Test.YtppdibblkaepjaaBd28
import Derived.Test.YtppdibblkaepjaaBd21
import Derived.Test.YtppdibblkaepjaaBd16
namespace Go.Proofs.Ytppdibblkaepjaa.Shape
open Go.RowKit
set_option linter.unusedVariables false

/-- append of ints to an own row, as a step of a region that draws its order. -/
theorem step_ints_own {ops : Array Oper} {o : Oper} {a : Act} {w : World} {K : Act → World → Prop} {Q : Exit → Act → World → Prop} {E : Prop} (hgd : o.guard = none) (s x : Operand)
    (ho : o.op = .call { callee := .builtin .append, args := #[s, x], argTypes := #[22, 22] }) (base n : Nat) (v : Value) (zs : List Value) (hs : a.eval s = v) (hown : w.ownsRow base 3 1 v n zs) (hb : base ≤ w.heap.size)
    (ad : Option Addr) (c m : Nat) (xs : List Int) (hx : a.eval x = .slice ad m c) (hm : m = xs.length) (hi : IntsAt w ad c xs) (hr : (n + xs.length) * 8 ≤ 140737488351232)
    (h : ∀ v' w', w'.ownsRow base 3 1 v' (n + xs.length) (zs ++ xs.map (Value.int .i64)) → w.grownBy w' v.ownBlock → K (a.put o.dst v') w') :
    if Region.wanted o (yielded ops a.tmps) = true then Oper.wp Try.prog o a w K Q else E := by
  have hw : Region.wanted o (yielded ops a.tmps) = true := by simp [Region.wanted, hgd]
  rw [if_pos hw]
  subst hm
  obtain ⟨v', w', hrun, hown', hg⟩ := run_ints_own o.type hown hi hr hb
  unfold Oper.wp execOp
  simp only [ho, resolve, invoke, builtin, Sem.run_bind, Sem.run_pure, Result.andThen_ok, List.map_toArray, List.map_cons, List.map_nil, hs, hx, hrun]
  exact h v' w' hown' hg
theorem rowlitB (w : World) (B : Nat) (hB : B ≤ w.heap.size) : (w.alloc (.cells #[] 3)).ownsRow B 3 1 (.slice (some ⟨w.heap.size, 0, none⟩) 0 0) 0 [] :=
  ownsRow_empty _ #[] _ _ _ 0 (heap_alloc_new w _) hB (by unfold maxLen; omega) rfl
/-- A row of ints is none of a struct's blocks. -/
theorem row_not_quad {w : World} {B n X : Nat} {v : Value} {qs : List Value} {c0 c1 c2 c3 : Value} (h : w.ownsRow B 3 1 v n qs) (q : Quad w X c0 c1 c2 c3) : v.ownBlock ≠ some X := by
  intro e
  rcases h.2 with ⟨rfl, -⟩ | ⟨g, cap, cur, rfl, -, hh, -⟩
  · simp [Value.ownBlock] at e
  · have e' : g = X := by simpa [Value.ownBlock] using e
    subst e'
    unfold Quad at q
    rw [hh] at q
    simp at q
/-- A new slice of ints, other than a struct's block. -/
theorem row_ints {w : World} {B n X : Nat} {v : Value} {xs : List Int} {c0 c1 c2 c3 : Value} (hn : n = xs.length) (h : w.ownsRow B 3 1 v n (xs.map (Value.int .i64))) (q : Quad w X c0 c1 c2 c3) (hb : ∀ x ∈ xs, -9223372036854775808 ≤ x ∧ x ≤ 9223372036854775807) :
    ∃ a c, v = .slice a xs.length c ∧ IntsOn (fun g => B ≤ g ∧ g ≠ X) w a c xs := by
  have hne := row_not_quad h q
  obtain ⟨a, c, rfl, hi, hp⟩ := ints_of_own hn h hb
  refine ⟨a, c, rfl, hi, fun hx ad e => ⟨hp hx ad e, fun e' => hne ?_⟩⟩
  subst e
  obtain ⟨-, -, -, b, off, ha, -⟩ := hi
  have := ha hx
  simp only [Option.some.injEq] at this
  subst this
  simp only at e'
  subst e'
  rcases h.2 with ⟨hv, -⟩ | ⟨g, cap, cur, hv, -⟩
  · cases hv
  · simp only [Value.slice.injEq, Option.some.injEq, Addr.mk.injEq] at hv
    rw [hv.1.1]
    simp [Value.ownBlock]

theorem row_arrs {Pb : Nat → Prop} {w : World} {B n : Nat} {va : Option Addr} {vl vc : Nat} {l : List Arr} {qs : List Value} (hn : n = l.length) (ho : w.ownsRow B 26 4 (.slice va vl vc) n qs) (hq : Quads Pb w qs l) (hPb : ∀ g, B ≤ g → Pb g) : ∃ b : Nat, vl = l.length ∧ l.length ≤ vc ∧ vc ≤ 9223372036854775807 ∧ (l ≠ [] → va = some ⟨b, 0, none⟩ ∧ Pb b) ∧ ArrsOn Pb w b 0 l := by
  subst hn
  rcases ho.2 with ⟨hv, h0⟩ | ⟨g, cap, cur, hv, hg, hh, hnc, hcm, hcs, htake⟩
  · have hl : l = [] := List.eq_nil_of_length_eq_zero h0
    subst hl
    simp only [Value.slice.injEq] at hv
    obtain ⟨rfl, rfl, rfl⟩ := hv
    exact ⟨0, rfl, Nat.le_refl _, by decide, fun g => absurd rfl g, by rw [ArrsOn]; trivial⟩
  · simp only [Value.slice.injEq] at hv
    obtain ⟨rfl, rfl, rfl⟩ := hv
    refine ⟨g, rfl, hnc, by unfold maxLen at hcm; omega, fun _ => ⟨rfl, hPb g hg⟩, hq.arrs fun i hi => ?_⟩
    rw [Nat.zero_add, ho.cellAt i (by rw [ho.1] at hi; exact hi)]
    simp [hi]
theorem ints_onlt {w : World} {a : Option Addr} {c : Nat} {xs : List Int} (h : IntsAt w a c xs) : IntsOn (fun g => g < w.heap.size) w a c xs := by
  refine ⟨h, fun hne ad e => ?_⟩
  obtain ⟨-, -, -, b, off, ha, hc⟩ := h
  have := ha hne
  rw [e] at this
  simp only [Option.some.injEq] at this
  subst this
  exact cell_lt (hc 0 (List.length_pos_iff.2 hne))
theorem nums_bound {w : World} {v : Value} {A : Arr} (h : ArrAt w v A) : ∀ x ∈ A.nums, -9223372036854775808 ≤ x ∧ x ≤ 9223372036854775807 := by
  obtain ⟨k, sh, nu, it⟩ := A
  rw [ArrAt] at h
  obtain ⟨sa, sc, na, nc, ia, ic, hv, hk, hs, hn, -⟩ := h
  exact hn.2.2.1
/-- put from nothing: the padded array. -/
theorem putStart {P : Nat → Prop} {sa : Option Addr} {sc ls : Nat} {v : Value} {A : Arr} {fa ta : Option Addr} {fc tc fl : Nat} {tt : List Int} (w : World) (hx : rightE A = 0) (hr : rightB tt = true) (hl : A.shape.length ≤ tt.length) (hrl : rightB (leadS A.shape tt.length) = true) (hls : ls = tt.length) (hs : IntsOn P w sa sc tt) (hP0 : ∀ g, w.heap.size ≤ g → P g) (hA : ArrAt w v A) (hR : Reach A) (hfl : fl = (leadS A.shape tt.length).length) (hf : IntsAt w fa fc (leadS A.shape tt.length)) (ht : IntsAt w ta tc tt) :
    Calls Try.prog 44 #[.agg #[.int .i64 A.kind, .slice sa ls sc, .slice none 0 0, .slice none 0 0], v, .slice fa fl fc, .slice ta ls tc, .int .i64 0] w fun e w' => ∃ na ln nc ia li ic, e = .returned (.agg #[.int .i64 A.kind, .slice sa ls sc, .slice na ln nc, .slice ia li ic]) ∧ ArrOn P w' (.agg #[.int .i64 A.kind, .slice sa ls sc, .slice na ln nc, .slice ia li ic]) (asmA A.kind tt tt [A]) ∧ Below w.heap.size w w' := by
  obtain ⟨h1, h2, h3, h4, h5, h6⟩ := right_lens hx
  have hNN := (right_def.1 (right_short hx)).2.1
  have hNt := (right_def.1 hr).2.1
  have htot := prN_le hr
  have hlp := leadS_prN (n := tt.length) hNN
  have hpA : prN A.shape ≤ 65536 := prN_le (right_short hx)
  have hll := leadS_len hl
  have hAo := hA.on
  have hsO : IntsOn (fun g => P g ∧ g < w.heap.size) w sa sc tt := ⟨hs.1, fun hne ad e => ⟨hs.2 hne ad e, (ints_onlt hs.1).2 hne ad e⟩⟩
  have hnil : ∀ g, (Value.slice none 0 0).ownBlock ≠ some g := fun g => by simp [Value.ownBlock]
  have hfo : IntsOn (fun g => (Value.slice none 0 0).ownBlock ≠ some g) w fa fc (leadS A.shape tt.length) := ⟨hf, fun _ ad _ => hnil _⟩
  have hto : IntsOn (fun g => (Value.slice none 0 0).ownBlock ≠ some g) w ta tc tt := ⟨ht, fun _ ad _ => hnil _⟩
  by_cases hk : A.kind = 3
  · obtain ⟨g1, g2⟩ := h4 hk
    have hput := putB tt (leadS A.shape tt.length) w A.kind sa ls sc none 0 0 none 0 0 v A fa fl fc ta ls tc 0 w.heap.size 0 [] [] (fun g => w.heap.size ≤ g) hk (hAo.mono fun g _ => hnil g) hR hfl hls hfo hto hr hrl hll.symm (Nat.le_refl _) (by omega) (by rw [hlp, g1]; omega) (by rw [g1]; omega) (World.ownsRow_nil _ _ _ _) (fun g hg => hg) (by rw [Quads]; trivial)
    refine hput.mono ?_
    rintro e w' ⟨va, vl, vc, qs', rfl, hP, hq⟩
    have hE : padS fillI tt (leadS A.shape tt.length) ((A.items.drop 0).take (prN (leadS A.shape tt.length))) = partI tt A := by
      rw [List.drop_zero, hlp, ← g1, List.take_length]; rfl
    rw [List.nil_append, hE] at hq
    have hlenI : (partI tt A).length = prN tt := by
      rw [partI, padS_len _ _ _ _ hll.symm hNt (leadS_NN hNN) (by rw [hlp]; exact g1)]
    rw [Nat.zero_add] at hP
    have hown := hP.own
    obtain ⟨rb, rfl, m1, m2, m3, m4⟩ := row_arrs (Pb := P) hlenI.symm hP.own (hq.keep (R := P) fun g hg _ => ⟨hP0 g hg.2, fun _ => rfl⟩) hP0
    have hsh : IntsOn P w' sa sc tt := hsO.keep fun g hg _ => ⟨hg.1, fun o => World.cell?_of_block (hP.far g hg.2 (Nat.ne_of_lt hg.2) (hnil g)).1⟩
    refine ⟨none, 0, 0, va, _, vc, rfl, ?_, hP.bel⟩
    have hA1 : asmA A.kind tt tt [A] = .mk A.kind tt [] (partI tt A) := by
      rw [asmA]; simp [hk]
    rw [hA1, ArrOn, hls]
    exact ⟨sa, sc, none, 0, va, vc, rfl, by omega, hsh, ⟨ints_nil _, fun g => absurd rfl g⟩, m1, m2, rb, 0, m3, m4⟩
  · obtain ⟨g1, g2⟩ := h3 hk
    have hk12 : A.kind = 1 ∨ A.kind = 2 := by omega
    have hput := putN tt (leadS A.shape tt.length) w A.kind sa ls sc none 0 0 none 0 0 v A fa fl fc ta ls tc 0 w.heap.size 0 [] hk12 (hAo.mono fun g _ => hnil g) hfl hls hfo hto hr hrl hll.symm (Nat.le_refl _) (by omega) (by rw [hlp, g1]; omega) (by rw [g1]; omega) (World.ownsRow_nil _ _ _ _)
    refine hput.mono ?_
    rintro e w' ⟨va, vl, vc, rfl, hP⟩
    have hE : padS (fillZ A.kind) tt (leadS A.shape tt.length) ((A.nums.drop 0).take (prN (leadS A.shape tt.length))) = partN A.kind tt A := by
      rw [List.drop_zero, hlp, ← g1, List.take_length]; rfl
    rw [List.nil_append, hE, Nat.zero_add] at hP
    have hlenN : (partN A.kind tt A).length = prN tt := by
      rw [partN, padS_len _ _ _ _ hll.symm hNt (leadS_NN hNN) (by rw [hlp]; exact g1)]
    have hnb : ∀ x ∈ partN A.kind tt A, -9223372036854775808 ≤ x ∧ x ≤ 9223372036854775807 := fun x hx => by
      rcases padS_mem _ _ _ _ x hx with h | h
      · rw [h]; rcases hk12 with h | h <;> rw [h] <;> decide
      · exact nums_bound hA x h
    obtain ⟨ra, rc, hv, hi⟩ := ints_of_own hlenN.symm hP.own hnb
    simp only [Value.slice.injEq] at hv
    obtain ⟨rfl, rfl, rfl⟩ := hv
    have hsh : IntsOn P w' sa sc tt := hsO.keep fun g hg _ => ⟨hg.1, fun o => World.cell?_of_block (hP.far g hg.2 (Nat.ne_of_lt hg.2) (hnil g)).1⟩
    refine ⟨va, _, vc, none, 0, 0, rfl, ?_, hP.bel⟩
    have hA1 : asmA A.kind tt tt [A] = .mk A.kind tt (partN A.kind tt A) [] := by
      rw [asmA]; simp [hk]
    rw [hA1]
    rw [ArrOn, hls]
    exact ⟨sa, sc, va, vc, none, 0, rfl, by omega, hsh, hi.mono hP0, Nat.le_refl _, by decide, 0, 0, fun g => absurd rfl g, by rw [ArrsOn]; trivial⟩
end Go.Proofs.Ytppdibblkaepjaa.Shape
