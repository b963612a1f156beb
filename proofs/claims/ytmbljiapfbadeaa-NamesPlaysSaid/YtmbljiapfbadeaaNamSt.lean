/-
  Layer 11: the state of the law that plays calls on scopes: both families, the law's own two lists of them.
-/
import Derived.Test.YtmbljiapfbadeaaNamR4
namespace Go.Proofs.Ytmbljiapfbadeaa.Nam
open Go.RowKit Go.Maps
set_option linter.unusedVariables false

/-- A list of pointers that the law appends to. -/
def Ptrs (w : World) (base : Nat) (e : TypeId) (v : Value) (S : List (Option Nat)) (pb : Nat → Nat) : Prop := w.ownsRow base e 1 v S.length (S.map fun o => ptr (o.map pb))
theorem Ptrs.kept {w w' : World} {base : Nat} {e : TypeId} {v : Value} {S : List (Option Nat)} {pb : Nat → Nat} (h : Ptrs w base e v S pb) (hk : ∀ g, v.ownBlock = some g → w'.heap[g]? = w.heap[g]?) : Ptrs w' base e v S pb := by
  obtain ⟨h1, h2⟩ := h
  refine ⟨h1, ?_⟩
  rcases h2 with h2 | ⟨g, cap, cur, hv, hg, hh, r⟩
  · exact Or.inl h2
  · exact Or.inr ⟨g, cap, cur, hv, hg, (hk g (by rw [hv]; rfl)).trans hh, r⟩
theorem Ptrs.block {w : World} {base : Nat} {e : TypeId} {v : Value} {S : List (Option Nat)} {pb : Nat → Nat} (h : Ptrs w base e v S pb) {g : Nat} (hg : v.ownBlock = some g) : base ≤ g ∧ ∃ cur, w.heap[g]? = some (.cells cur e (0, 0)) := by
  obtain ⟨h1, h2⟩ := h
  rcases h2 with ⟨rfl, _⟩ | ⟨g', cap, cur, rfl, hb, hh, r⟩
  · cases hg
  · obtain rfl : g' = g := Option.some.inj hg
    exact ⟨hb, cur, hh⟩
theorem Ptrs.below {w w' : World} {base : Nat} {e : TypeId} {v : Value} {S : List (Option Nat)} {pb : Nat → Nat} (h : Ptrs w base e v S pb) (hb : Below w.heap.size w w') : Ptrs w' base e v S pb := h.kept fun g hg => by
  obtain ⟨_, cur, hc⟩ := h.block hg
  exact hb.block g (heap_lt hc)
theorem Ptrs.renamed {w : World} {base : Nat} {e : TypeId} {v : Value} {S : List (Option Nat)} {pb pb' : Nat → Nat} (h : Ptrs w base e v S pb) (he : ∀ o ∈ S, ∀ j, o = some j → pb j = pb' j) : Ptrs w base e v S pb' := by
  have e1 : (S.map fun o => ptr (o.map pb')) = S.map fun o => ptr (o.map pb) := List.map_congr_left fun o ho => by
    cases o with
    | none => rfl
    | some j => simp [he _ ho j rfl]
  unfold Ptrs
  rw [e1]
  exact h
/-- Element k. -/
theorem Ptrs.at {w : World} {base : Nat} {t e : TypeId} {v : Value} {S : List (Option Nat)} {pb : Nat → Nat} (h : Ptrs w base e v S pb) (he : Try.prog.underlying t = some (.slice (Try.prog.elem t))) (hz : ∀ w, (sizeOf (Try.prog.elem t)).run Try.prog w = .ok 1 w) {j : Nat} (hj : j < S.length) :
    ∃ g c, v = .slice (some ⟨g, 0, none⟩) S.length c ∧ (∀ w' : World, (Instr.indexAt t (.slice (some ⟨g, 0, none⟩) S.length c) (.int .i64 (j : Int))).run Try.prog w' = .ok (.pointer (some ⟨g, j, none⟩)) w') ∧ w.cell? ⟨g, j, none⟩ = some (ptr (S[j].map pb)) := by
  obtain ⟨h1, h2⟩ := h
  rcases h2 with ⟨rfl, h0⟩ | ⟨g, cap, cur, rfl, hg, hh, hn, hc, hs, ht⟩
  · omega
  · refine ⟨g, cap, rfl, fun w' => ?_, ?_⟩
    · rw [run_indexAt_slice w' _ _ _ _ .i64 j he, if_pos (by omega), hz]
      show Result.ok _ w' = _
      rw [show ((j : Int).toNat * 1) = j by omega, add_plain, Nat.zero_add]
    · have e1 := congrArg (fun l => l[j]?) ht
      have e : cur[j]? = some (ptr (S[j].map pb)) := by
        simp only [Nat.mul_one, List.getElem?_take, if_pos hj, List.getElem?_map, List.getElem?_eq_getElem hj, Option.map_some] at e1
        rw [← e1, Array.getElem?_toList]
      simp [World.cell?, hh, e]
theorem elemA : Try.prog.underlying 26 = some (.slice (Try.prog.elem 26)) := by kernel_rfl
theorem sizeA (w : World) : (sizeOf (Try.prog.elem 26)).run Try.prog w = .ok 1 w := by kernel_rfl
theorem infoA : (Try.prog.info? 24).map (fun i => (i.zero, i.size, i.bytes)) = some (some (.pointer none), 1, 8) := by kernel_rfl
theorem elemB : Try.prog.underlying 29 = some (.slice (Try.prog.elem 29)) := by kernel_rfl
theorem sizeB (w : World) : (sizeOf (Try.prog.elem 29)).run Try.prog w = .ok 1 w := by kernel_rfl
theorem infoB : (Try.prog.info? 27).map (fun i => (i.zero, i.size, i.bytes)) = some (some (.pointer none), 1, 8) := by kernel_rfl
section
variable (w : World) {ops : Array Oper} {rest : List Oper} {o : Oper} {a : Act} {Q : Exit → Act → World → Prop}
theorem ptr_push {t e : TypeId} (ht : Try.prog.underlying t = some (.slice e)) (hinfo : (Try.prog.info? e).map (fun i => (i.zero, i.size, i.bytes)) = some (some (.pointer none), 1, 8)) (hgd : o.guard = none) (s x : Operand) (ho : o.op = .call { callee := .builtin .append, args := #[s, x], argTypes := #[t, t] })
    (base : Nat) (v : Value) (S : List (Option Nat)) (pb : Nat → Nat) (hs : a.eval s = v) (hown : Ptrs w base e v S pb) (y : Option Nat) (hx : a.eval x = .slice (some ⟨w.heap.size, 0, none⟩) 1 1) (hL : S.length ≤ 1000) (hbase : base ≤ w.heap.size)
    (u : Value) (hu : u = ptr (y.map pb)) (hK : ∀ (ad : Option Addr) (m k : Nat) w', Ptrs w' base e (.slice ad m k) (S ++ [y]) pb → w.grownBy w' v.ownBlock → wpList Try.prog ops Q rest (a.put o.dst (.slice ad m k)) w') :
    wpList Try.prog ops Q (o :: rest) a (w.alloc (.cells #[u] e)) := by
  subst hu
  obtain ⟨i0, hi, hz0, hz1, hz2⟩ := info_parts hinfo
  have h0 : (w.alloc (.cells #[ptr (y.map pb)] e)).ownsRow base e 1 v S.length (S.map fun o => ptr (o.map pb)) := hown.below (below_new _ _)
  refine wpList_append_own_at _ hgd _ _ t ho base e i0 (.pointer none) 1 8 ht hi hz0 hz1 hz2 rfl (by decide) v S.length _ hs h0 ⟨w.heap.size, 0, none⟩ 1 1 [ptr (y.map pb)] hx rfl (cell_one_new _ _ _) (fun u hu => by simp at hu; subst hu; rfl) (by unfold maxLen; omega) (by omega) (by simp; omega) ?_
  intro v' w' h1 h2 _ h4
  obtain ⟨ad, m', c', rfl⟩ := row_shape h1
  refine hK ad m' c' w' ?_ ((World.grownBy_alloc w _ _).trans h2)
  unfold Ptrs
  rw [List.map_append, List.length_append]
  exact h1
end
theorem addD_len2 (ds : List Def) (s : ByteArray) (c : Int) : (addD ds s c).length ≤ ds.length + 1 := by
  rcases addD_cases ds s c with ⟨_, e⟩ | ⟨_, e⟩ <;> rw [e]
  · simp
  · omega
/-- The two families and the two lists. -/
structure St (W : World) (base n : Nat) (L : List Scp) (S : List (Option Nat)) (pb mb rb : Nat → Nat) (vn vc : Nat → Value) (va vb : Value) : Prop where
  pf : PFam W L pb mb
  rf : RFam W base L rb vn vc
  la : Ptrs W base 24 va S pb
  lb : Ptrs W base 27 vb S rb
  wf : Wf L
  ok : ∀ o ∈ S, ∀ j, o = some j → j < L.length
  low : ∀ j, j < L.length → base ≤ pb j ∧ base ≤ mb j ∧ base ≤ rb j
  cL : L.length ≤ S.length
  cS : S.length ≤ n + 2
  cD : ∀ j (h : j < L.length), L[j].ds.length ≤ n
section
variable {W W' : World} {base n : Nat} {L : List Scp} {S : List (Option Nat)} {pb mb rb : Nat → Nat} {vn vc : Nat → Value} {va vb : Value}
theorem St.below (h : St W base n L S pb mb rb vn vc va vb) (hb : Below W.heap.size W W') : St W' base n L S pb mb rb vn vc va vb :=
  ⟨h.pf.below hb, h.rf.below hb, h.la.below hb, h.lb.below hb, h.wf, h.ok, h.low, h.cL, h.cS, h.cD⟩
theorem St.mono (h : St W base n L S pb mb rb vn vc va vb) {n' : Nat} (hn : n ≤ n') : St W base n' L S pb mb rb vn vc va vb :=
  ⟨h.pf, h.rf, h.la, h.lb, h.wf, h.ok, h.low, h.cL, by have := h.cS; omega, fun j hj => by have := h.cD j hj; omega⟩
/-- What the program's Define leaves. -/
theorem St.rf_but (h : St W base n L S pb mb rb vn vc va vb) {i : Nat} (hi : i < L.length) (hb : But (mb i) W W') : RFam W' base L rb vn vc ∧ Ptrs W' base 24 va S pb ∧ Ptrs W' base 27 vb S rb := by
  obtain ⟨es, clock, hm, _⟩ := (h.pf.sc i hi).map
  have nc : ∀ {g : Nat} {cur : Array Value} {e : TypeId}, W.heap[g]? = some (.cells cur e (0, 0)) → W'.heap[g]? = W.heap[g]? := fun hc => hb.block _ (heap_lt hc) fun q => by rw [q, hm] at hc; cases hc
  refine ⟨⟨fun k hk => ?_, h.rf.ib, h.rf.iN, h.rf.iC⟩, h.la.kept fun g hg => ?_, h.lb.kept fun g hg => ?_⟩
  · have hK := h.rf.sc k hk
    exact ⟨(nc hK.blk).trans hK.blk, hK.nm.kept fun g hg => by obtain ⟨_, cur, hc⟩ := hK.nm.block hg; exact nc hc, hK.cl.kept fun g hg => by obtain ⟨_, cur, hc⟩ := hK.cl.block hg; exact nc hc⟩
  · obtain ⟨_, cur, hc⟩ := h.la.block hg
    exact nc hc
  · obtain ⟨_, cur, hc⟩ := h.lb.block hg
    exact nc hc
/-- A row of pointers grows: both families stand. -/
theorem fam_grown {e : TypeId} (he : e ≠ 46 ∧ e ≠ 49 ∧ e ≠ 9 ∧ e ≠ 30) {row : Option Nat} (hg : W.grownBy W' row) (hrow : ∀ g, row = some g → ∃ cur, W.heap[g]? = some (.cells cur e (0, 0))) :
    (PFam W L pb mb → PFam W' L pb mb) ∧ (RFam W base L rb vn vc → RFam W' base L rb vn vc) := by
  have nc : ∀ {g : Nat} {cur : Array Value} {e' : TypeId}, W.heap[g]? = some (.cells cur e' (0, 0)) → e' ≠ e → W'.heap[g]? = W.heap[g]? := fun hc hne => hg.block _ (heap_lt hc) fun q => by
    obtain ⟨cur, h2⟩ := hrow _ q.symm
    rw [hc] at h2
    simp only [Option.some.injEq, Obj.cells.injEq] at h2
    exact hne h2.2.1
  refine ⟨fun h => ⟨fun k hk => ?_, h.inj⟩, fun h => ⟨fun k hk => ?_, h.ib, h.iN, h.iC⟩⟩
  · have hK := h.sc k hk
    refine ⟨(nc hK.blk (fun q => he.1 q.symm)).trans hK.blk, hK.map.kept hg fun q => ?_, hK.uniq⟩
    obtain ⟨cur, h2⟩ := hrow _ q.symm
    obtain ⟨es, clock, hm, _⟩ := hK.map
    rw [hm] at h2
    cases h2
  · have hK := h.sc k hk
    exact ⟨(nc hK.blk (fun q => he.2.1 q.symm)).trans hK.blk, hK.nm.kept fun g hg => by obtain ⟨_, cur, hc⟩ := hK.nm.block hg; exact nc hc (fun q => he.2.2.1 q.symm), hK.cl.kept fun g hg => by obtain ⟨_, cur, hc⟩ := hK.cl.block hg; exact nc hc (fun q => he.2.2.2 q.symm)⟩
theorem ptrs_grown {e e' : TypeId} (he : e ≠ e') {row : Option Nat} (hg : W.grownBy W' row) (hrow : ∀ g, row = some g → ∃ cur, W.heap[g]? = some (.cells cur e (0, 0))) {v : Value} (h : Ptrs W base e' v S pb) : Ptrs W' base e' v S pb := h.kept fun g hgv => by
  obtain ⟨_, cur, hc⟩ := h.block hgv
  refine hg.block g (heap_lt hc) fun q => ?_
  obtain ⟨cur2, h2⟩ := hrow _ q.symm
  rw [hc] at h2
  simp only [Option.some.injEq, Obj.cells.injEq] at h2
  exact he h2.2.1.symm
/-- What the reference's Define leaves of the rest. -/
theorem rest_butR {i : Nat} (hi : i < L.length) (hR : RFam W base L rb vn vc) (hb : ButR (rb i) (vn i) (vc i) W W') : (∀ L' : List Scp, PFam W L' pb mb → PFam W' L' pb mb) ∧ (∀ (e : TypeId) (v : Value) (f : Nat → Nat), e ≠ 49 ∧ e ≠ 9 ∧ e ≠ 30 → Ptrs W base e v S f → Ptrs W' base e v S f) := by
  have hI := hR.sc i hi
  have nc : ∀ {g : Nat} {o : Obj}, W.heap[g]? = some o → (∀ cur e, o = .cells cur e (0, 0) → e ≠ 49 ∧ e ≠ 9 ∧ e ≠ 30) → W'.heap[g]? = W.heap[g]? := fun {g o} hc hne => by
    refine hb.block g (heap_lt hc) (fun q => ?_) (fun q => ?_) (fun q => ?_)
    · rw [q, hI.blk] at hc
      exact (hne _ _ (Option.some.inj hc).symm).1 rfl
    · obtain ⟨_, cur, h2⟩ := hI.nm.block q
      rw [hc] at h2
      exact (hne _ _ (Option.some.inj h2)).2.1 rfl
    · obtain ⟨_, cur, h2⟩ := hI.cl.block q
      rw [hc] at h2
      exact (hne _ _ (Option.some.inj h2)).2.2 rfl
  refine ⟨fun L' h => ⟨fun k hk => ?_, h.inj⟩, fun e v f he h => h.kept fun g hg => ?_⟩
  · have hK := h.sc k hk
    obtain ⟨es, clock, hm, hmr⟩ := id hK.map
    have hm' := (nc hm (fun cur e q => by cases q)).trans hm
    refine ⟨(nc hK.blk (fun cur e q => by cases q; decide)).trans hK.blk, ⟨es, clock, hm', hmr⟩, hK.uniq⟩
  · obtain ⟨_, cur, hc⟩ := h.block hg
    exact nc hc fun cur' e' q => by cases q; exact he
theorem St.defined {w1 w2 : World} (h : St W base n L S pb mb rb vn vc va vb) {i : Nat} (hi : i < L.length) {s : ByteArray} {c : Int} (h1 : PFam w1 (defL L i s c) pb mb) (b1 : But (mb i) W w1) {vn' vc' : Value}
    (h2 : RSc w2 base (rb i) (L[i].out.map rb) vn' vc' (addD L[i].ds s c)) (b2 : ButR (rb i) (vn i) (vc i) w1 w2) (on : Own w1 (vn i) vn') (oc : Own w1 (vc i) vc') :
    St w2 base (n + 1) (defL L i s c) S pb mb rb (upd vn i vn') (upd vc i vc') va vb := by
  obtain ⟨r1, la1, lb1⟩ := h.rf_but hi b1
  obtain ⟨q1, q2⟩ := rest_butR (S := S) (pb := pb) (mb := mb) hi r1 b2
  refine ⟨q1 _ h1, r1.defined hi b2 on oc s c h2, q2 _ _ _ (by decide) la1, (rest_butR (S := S) (pb := pb) (mb := mb) hi r1 b2).2 _ _ _ (by decide) lb1, h.wf.defined i s c, fun o ho j e => by rw [defL_len]; exact h.ok o ho j e, fun j hj => h.low j (by rwa [defL_len] at hj), by rw [defL_len]; exact h.cL, by have := h.cS; omega, fun j hj => ?_⟩
  have hj' : j < L.length := by rwa [defL_len] at hj
  rw [defL_at s c hj']
  have h3 := h.cD j hj'
  show (if i = j then addD L[j].ds s c else L[j].ds).length ≤ n + 1
  split
  · have := addD_len2 L[j].ds s c
    omega
  · omega
theorem Ptrs.shape {w : World} {e : TypeId} {v : Value} {f : Nat → Nat} (h : Ptrs w base e v S f) : ∃ ad c, v = .slice ad S.length c := by
  obtain ⟨_, h2⟩ := h
  rcases h2 with ⟨rfl, h0⟩ | ⟨g, cap, cur, rfl, _⟩
  · exact ⟨none, 0, by rw [h0]⟩
  · exact ⟨_, _, rfl⟩
/-- The names of the old scopes stand. -/
theorem St.la_open (h : St W base n L S pb mb rb vn vc va vb) (x : Nat) : Ptrs W base 24 va S (upd pb L.length x) :=
  h.la.renamed fun o ho j e => (upd_other pb x (Nat.ne_of_lt (h.ok o ho j e))).symm
theorem St.lb_open (h : St W base n L S pb mb rb vn vc va vb) (x : Nat) : Ptrs W base 27 vb S (upd rb L.length x) :=
  h.lb.renamed fun o ho j e => (upd_other rb x (Nat.ne_of_lt (h.ok o ho j e))).symm
theorem ptrs_row {w : World} {e : TypeId} {v : Value} {f : Nat → Nat} (h : Ptrs w base e v S f) : ∀ g, v.ownBlock = some g → ∃ cur, w.heap[g]? = some (.cells cur e (0, 0)) := fun g hg => (h.block hg).2
theorem below_grown {base0 : Nat} {w0 w w' : World} {row : Option Nat} (h : Below base0 w0 w) (hg : w.grownBy w' row) (hb : base0 ≤ w.heap.size) (hr : ∀ g, row = some g → base0 ≤ g) : Below base0 w0 w' := h.grown hg hb hr
theorem St.opened {w1 w2 w4 w6 : World} (h : St W base n L S pb mb rb vn vc va vb) (hbw : base ≤ W.heap.size) {i : Nat} (hi : i < L.length) {b m r : Nat} (hb : base ≤ b) (hm : base ≤ m) (hr : w1.heap.size ≤ r) {va' vb' : Value}
    (P1 : PFam w1 (openL L i) (upd pb L.length b) (upd mb L.length m)) (b1 : Below W.heap.size W w1) (R2 : RSc w2 base r (some (rb i)) (.slice none 0 0) (.slice none 0 0) []) (b2 : Below w1.heap.size w1 w2)
    (LA4 : Ptrs w4 base 24 va' (S ++ [some L.length]) (upd pb L.length b)) (g4 : w2.grownBy w4 va.ownBlock)
    (LB6 : Ptrs w6 base 27 vb' (S ++ [some L.length]) (upd rb L.length r)) (g6 : w4.grownBy w6 vb.ownBlock) :
    St w6 base (n + 1) (openL L i) (S ++ [some L.length]) (upd pb L.length b) (upd mb L.length m) (upd rb L.length r) (upd vn L.length (.slice none 0 0)) (upd vc L.length (.slice none 0 0)) va' vb' := by
  have S2 := (h.below b1).below b2
  have R2' := ((h.below b1).rf).opened h.wf hi b2 hr R2
  have LB4 : Ptrs w4 base 27 vb S rb := ptrs_grown (e := 24) (by decide) g4 (ptrs_row S2.la) S2.lb
  have k4 := fam_grown (L := openL L i) (pb := upd pb L.length b) (mb := upd mb L.length m) (base := base) (rb := upd rb L.length r) (vn := upd vn L.length (.slice none 0 0)) (vc := upd vc L.length (.slice none 0 0)) (e := 24) (by decide) g4 (ptrs_row S2.la)
  have k6 := fam_grown (L := openL L i) (pb := upd pb L.length b) (mb := upd mb L.length m) (base := base) (rb := upd rb L.length r) (vn := upd vn L.length (.slice none 0 0)) (vc := upd vc L.length (.slice none 0 0)) (e := 27) (by decide) g6 (ptrs_row LB4)
  refine ⟨k6.1 (k4.1 (P1.below b2)), k6.2 (k4.2 R2'), ptrs_grown (e := 27) (by decide) g6 (ptrs_row LB4) LA4, LB6, h.wf.opened hi, fun o ho j e => ?_, fun j hj => ?_, ?_, ?_, fun j hj => ?_⟩
  · rw [openL_len]
    rcases List.mem_append.1 ho with q | q
    · have := h.ok o q j e
      omega
    · simp at q
      subst q
      cases e
      omega
  · rw [openL_len] at hj
    rcases Nat.lt_or_ge j L.length with q | q
    · rw [upd_other pb b (Nat.ne_of_lt q), upd_other mb m (Nat.ne_of_lt q), upd_other rb r (Nat.ne_of_lt q)]
      exact h.low j q
    · obtain rfl : j = L.length := by omega
      rw [upd_same, upd_same, upd_same]
      exact ⟨hb, hm, by have := b1.size; omega⟩
  · rw [openL_len]
    have := h.cL
    simp
    omega
  · have := h.cS
    simp
    omega
  · rw [openL_len] at hj
    rcases Nat.lt_or_ge j L.length with q | q
    · have e : (openL L i)[j]'(by rw [openL_len]; exact hj) = L[j] := by simp [openL, List.getElem_append_left q]
      rw [e]
      have := h.cD j q
      omega
    · obtain rfl : j = L.length := by omega
      have e : (openL L i)[L.length]'(by rw [openL_len]; exact hj) = ⟨some i, (scp L i).dep + 1, []⟩ := by simp [openL]
      rw [e]
      exact Nat.zero_le _
/-- Open on nil adds nil to both lists. -/
theorem St.opened0 {w4 w6 : World} (h : St W base n L S pb mb rb vn vc va vb) {va' vb' : Value}
    (LA4 : Ptrs w4 base 24 va' (S ++ [none]) pb) (g4 : W.grownBy w4 va.ownBlock)
    (LB6 : Ptrs w6 base 27 vb' (S ++ [none]) rb) (g6 : w4.grownBy w6 vb.ownBlock) :
    St w6 base (n + 1) L (S ++ [none]) pb mb rb vn vc va' vb' := by
  have LB4 : Ptrs w4 base 27 vb S rb := ptrs_grown (e := 24) (by decide) g4 (ptrs_row h.la) h.lb
  have k4 := fam_grown (L := L) (pb := pb) (mb := mb) (base := base) (rb := rb) (vn := vn) (vc := vc) (e := 24) (by decide) g4 (ptrs_row h.la)
  have k6 := fam_grown (L := L) (pb := pb) (mb := mb) (base := base) (rb := rb) (vn := vn) (vc := vc) (e := 27) (by decide) g6 (ptrs_row LB4)
  refine ⟨k6.1 (k4.1 h.pf), k6.2 (k4.2 h.rf), ptrs_grown (e := 27) (by decide) g6 (ptrs_row LB4) LA4, LB6, h.wf, fun o ho j e => ?_, h.low, ?_, ?_, fun j hj => ?_⟩
  · rcases List.mem_append.1 ho with q | q
    · exact h.ok o q j e
    · simp at q
      subst q
      cases e
  · have := h.cL
    simp
    omega
  · have := h.cS
    simp
    omega
  · have := h.cD j hj
    omega
end
end Go.Proofs.Ytmbljiapfbadeaa.Nam
