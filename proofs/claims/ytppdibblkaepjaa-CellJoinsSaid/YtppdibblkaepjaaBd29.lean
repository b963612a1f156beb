/-
  A region that draws its order of evaluation, shown operation by operation and not order by order. Each temporary has a fact (F) that stands while the world grows (le). If each operation, in any state in which the facts of the temporaries that it looks at stand, leaves its own temporary's fact, then all facts stand behind the region, whatever order was drawn. (The premises: every operation writes one temporary, and waits for the operations whose temporaries it looks at: 'fed', a test by computation.)
-/
import Derived.RegionTactic
import Derived.Deep.RegionHeld
namespace Go.Proofs.Ytppdibblkaepjaa.Draw
open Go

/-- The temporaries that an operation looks at; 'gd' says in which temporary the guard numbered g stands. -/
def looks (gd : Nat → Nat) (o : Oper) : List Nat :=
  (o.op.operands.toList.filterMap fun | .tmp t => some t | _ => none) ++
  (match o.guard with
   | some (g, _) => [gd g]
   | none => [])

/-- The test of a region: each operation writes one temporary below n, waits for elder ones only, and for each one whose temporary it looks at. -/
def fed (gd : Nat → Nat) (n : Nat) (ops : Array Oper) : Bool :=
  (List.range ops.size).all fun i => match ops[i]? with
   | none => true
   | some o => (match o.op with | .select _ _ => false | _ => true) && (match o.dst with | some d => decide (d < n) | none => false) &&
     (o.after.all fun e => decide (e.on < i)) &&
     (match o.guard with | some (g, _) => (match ops[g]? with | some og => og.dst == some (gd g) | none => false) | none => true) &&
     (List.range ops.size).all fun j => match ops[j]? with
        | none => true
        | some oj => (match oj.dst with | none => true | some dj => !(looks gd o).contains dj || o.after.any fun e => Region.binds .any e && e.on == j)

/-- One operation: where the facts of what it looks at stand, its guard is met and it leaves its own fact. -/
def StepOK (P : Program) (gd : Nat → Nat) (le : World → World → Prop) (F : Nat → Value → World → Prop) (w0 : World) (o : Oper) : Prop :=
  ∀ (a : Act) (w : World), le w0 w → (∀ t, (looks gd o).contains t = true → F t (a.tmps[t]?.getD undef) w) →
    (match o.guard with | some (g, b) => a.tmps[gd g]?.getD undef = .bool b | none => True) ∧
    ∀ (K : Act → World → Prop) (Q : Exit → Act → World → Prop), Shut (∀ v w', le w w' → F (o.dst.getD 0) v w' → K (a.put o.dst v) w') → o.wp P a w K Q

def AllSteps (p : Oper → Prop) : List Oper → Prop
  | [] => True
  | o :: l => p o ∧ AllSteps p l
theorem AllSteps.nil {p : Oper → Prop} : AllSteps p [] := trivial
theorem AllSteps.cons {p : Oper → Prop} {o : Oper} {l : List Oper} (h : p o) (hs : AllSteps p l) : AllSteps p (o :: l) := ⟨h, hs⟩
theorem AllSteps.at {p : Oper → Prop} : ∀ {l : List Oper}, AllSteps p l → ∀ {i : Nat} {o : Oper}, l[i]? = some o → p o
  | [], _, i, o, h => by simp at h
  | x :: l, hs, 0, o, h => by simp at h; exact h ▸ hs.1
  | x :: l, hs, i + 1, o, h => AllSteps.at hs.2 (by simpa using h)

/-- The state in the midst of the region. -/
structure Midst (ops : Array Oper) (le : World → World → Prop) (F : Nat → Value → World → Prop) (n : Nat) (ds : List Deferred) (w0 : World) (listed : Array Bool) (a : Act) (w : World) : Prop where
  size : listed.size = ops.size
  tsize : a.tmps.size = n
  defers : a.defers = ds
  world : le w0 w
  fact : ∀ t, (∀ (i : Nat) (o : Oper), ops[i]? = some o → o.dst = some t → listed.getD i false = true) → F t (a.tmps[t]?.getD undef) w

theorem fed_at {gd : Nat → Nat} {n : Nat} {ops : Array Oper} (h : fed gd n ops = true) {i : Nat} {o : Oper} (hi : ops[i]? = some o) :
    (∃ d, o.dst = some d ∧ d < n) ∧ (∀ e ∈ o.after, e.on < i) ∧
    (∀ g b, o.guard = some (g, b) → ∃ og, ops[g]? = some og ∧ og.dst = some (gd g)) ∧
    (∀ j oj dj, ops[j]? = some oj → oj.dst = some dj → (looks gd o).contains dj = true → ∃ e ∈ o.after, Region.binds .any e = true ∧ e.on = j) := by
  have hlt : i < ops.size := (Array.getElem?_eq_some_iff.1 hi).1
  unfold fed at h
  rw [List.all_eq_true] at h
  have h1 := h i (List.mem_range.2 hlt)
  rw [hi] at h1
  simp only [Bool.and_eq_true] at h1
  obtain ⟨⟨⟨⟨-, h2⟩, h3⟩, h4⟩, h5⟩ := h1
  refine ⟨?_, ?_, ?_, ?_⟩
  · cases hd : o.dst with
    | none => rw [hd] at h2; cases h2
    | some d => rw [hd] at h2; exact ⟨d, rfl, by simpa using h2⟩
  · intro e he
    rw [Array.all_eq_true_iff_forall_mem] at h3
    simpa using h3 e he
  · intro g b hg
    rw [hg] at h4
    cases hog : ops[g]? with
    | none => simp [hog] at h4
    | some og => simp [hog] at h4; exact ⟨og, rfl, h4⟩
  · intro j oj dj hj hdj hl
    have hjlt : j < ops.size := (Array.getElem?_eq_some_iff.1 hj).1
    rw [List.all_eq_true] at h5
    have h6 := h5 j (List.mem_range.2 hjlt)
    rw [hj] at h6
    simp only [hdj, hl, Bool.not_true, Bool.false_or] at h6
    rw [Array.any_eq_true'] at h6
    obtain ⟨e, he, hh⟩ := h6
    simp only [Bool.and_eq_true, beq_iff_eq] at hh
    exact ⟨e, he, hh.1, hh.2⟩

theorem wanted_of {gd : Nat → Nat} {ops : Array Oper} {o : Oper} {a : Act}
    (hog : ∀ g b, o.guard = some (g, b) → ∃ og, ops[g]? = some og ∧ og.dst = some (gd g))
    (h : match o.guard with | some (g, b) => a.tmps[gd g]?.getD undef = .bool b | none => True) : Region.wanted o (yielded ops a.tmps) = true := by
  unfold Region.wanted
  cases hg : o.guard with
  | none => rfl
  | some gb =>
    obtain ⟨g, b⟩ := gb
    rw [hg] at h
    obtain ⟨og, h1, h2⟩ := hog g b hg
    simp only at h
    have h3 : a.tmps[gd g]? = some (.bool b) := by
      cases hx : a.tmps[gd g]? with
      | none => rw [hx] at h; exact absurd h (by simp [undef])
      | some v => rw [hx] at h; simpa using h
    simp [yielded, h1, h2, h3]

theorem Midst.step {P : Program} {ops : Array Oper} {Q : Exit → Act → World → Prop} {gd : Nat → Nat} {le : World → World → Prop} {F : Nat → Value → World → Prop} {n : Nat} {ds : List Deferred} {w0 : World}
    (htrans : ∀ x y z, le x y → le y z → le x z) (hF : ∀ t v x y, le x y → F t v x → F t v y) (hfed : fed gd n ops = true)
    (hstep : ∀ (i : Nat) (o : Oper), ops[i]? = some o → StepOK P gd le F w0 o)
    {listed : Array Bool} {a : Act} {w : World} (hm : Midst ops le F n ds w0 listed a w) {i : Nat} (hi : i ∈ Region.ready .any ops listed) :
    wpOp P ops Q i (fun a' w' => Midst ops le F n ds w0 (listed.setIfInBounds i true) a' w') a w := by
  obtain ⟨hun, o, ho, hall⟩ := mem_ready.1 hi
  obtain ⟨⟨d, hd, hdn⟩, -, hguard, hdep⟩ := fed_at hfed ho
  have hlook : ∀ t, (looks gd o).contains t = true → F t (a.tmps[t]?.getD undef) w := fun t ht =>
    hm.fact t fun j oj hj hdj => by
      obtain ⟨e, he, hb, rfl⟩ := hdep j oj t hj hdj ht
      exact hall e he hb
  obtain ⟨hg, hrun⟩ := hstep i o ho a w hm.world hlook
  unfold wpOp
  simp only [ho, wanted_of hguard hg, if_true]
  refine .inl (hrun _ Q (fun v w' hle hv => ?_))
  rw [hd] at hv ⊢
  refine ⟨by simp [hm.size], by simp [Act.put, hm.tsize], by simp [Act.put, hm.defers], htrans _ _ _ hm.world hle, fun t ht => ?_⟩
  by_cases htd : t = d
  · subst htd
    have : t < a.tmps.size := by rw [hm.tsize]; exact hdn
    simpa [Act.put, this] using hv
  · have hne : d ≠ t := fun h => htd h.symm
    have h1 : (a.put (some d) v).tmps[t]? = a.tmps[t]? := by simp [Act.put, Array.getElem?_setIfInBounds_ne hne]
    rw [h1]
    refine hF t _ _ _ hle (hm.fact t fun j oj hj hdj => ?_)
    have h2 := ht j oj hj hdj
    have hij : i ≠ j := fun h => by
      subst h
      rw [ho] at hj
      cases hj
      rw [hd] at hdj
      exact hne (by simpa using hdj)
    rwa [getD_set_ne false hij] at h2

theorem least_false (listed : Array Bool) : ∀ m, m ≤ listed.size → (∀ i, i < m → listed.getD i false = true) ∨ ∃ i, i < m ∧ listed.getD i true = false ∧ ∀ j, j < i → listed.getD j false = true
  | 0, _ => .inl fun i h => absurd h (Nat.not_lt_zero i)
  | m + 1, hm => by
    rcases least_false listed m (by omega) with h | ⟨i, hi, h1, h2⟩
    · have hlt : m < listed.size := by omega
      cases hx : listed[m] with
      | true =>
        refine .inl fun i hi => ?_
        rcases Nat.lt_or_ge i m with h' | h'
        · exact h i h'
        · have : i = m := by omega
          subst this
          simp [hlt, hx]
      | false => exact .inr ⟨m, by omega, by simp [hlt, hx], h⟩
    · exact .inr ⟨i, by omega, h1, h2⟩

theorem all_listed {gd : Nat → Nat} {n : Nat} {ops : Array Oper} {listed : Array Bool} (hfed : fed gd n ops = true) (hs : listed.size = ops.size)
    (hr : Region.ready .any ops listed = []) : ∀ i, i < ops.size → listed.getD i false = true := by
  rcases least_false listed ops.size (by omega) with h | ⟨i, hi, h1, h2⟩
  · exact h
  · exfalso
    have hmem : i ∈ Region.ready .any ops listed := by
      refine mem_ready.2 ⟨h1, ops[i], by simp [hi], fun e he _ => ?_⟩
      exact h2 _ ((fed_at hfed (by simp [hi])).2.1 e he)
    rw [hr] at hmem
    cases hmem

theorem ready_nil_of {ops : Array Oper} {listed : Array Bool} (h : ∀ i, i < ops.size → listed.getD i true = true) : Region.ready .any ops listed = [] := by
  cases hr : Region.ready .any ops listed with
  | nil => rfl
  | cons x xs =>
    have hx : x ∈ Region.ready .any ops listed := by rw [hr]; exact List.mem_cons_self ..
    obtain ⟨h0, o, ho, -⟩ := mem_ready.1 hx
    rw [h x (Array.getElem?_eq_some_iff.1 ho).1] at h0
    cases h0

theorem count_zero {listed : Array Bool} (h : listed.toList.count false = 0) : ∀ i, listed.getD i true = true := by
  intro i
  cases hx : listed[i]? with
  | none => simp [hx]
  | some b =>
    cases b with
    | true => simp [hx]
    | false =>
      exfalso
      have : false ∈ listed.toList := by
        rw [Array.mem_toList_iff]
        exact Array.mem_of_getElem? hx
      exact absurd (List.count_pos_iff.2 this) (by omega)

theorem count_set {listed : Array Bool} {i : Nat} (h : listed.getD i true = false) : (listed.setIfInBounds i true).toList.count false + 1 = listed.toList.count false := by
  have hlt : i < listed.size := by
    rcases Nat.lt_or_ge i listed.size with h' | h'
    · exact h'
    · simp [Array.getElem?_eq_none h'] at h
  have hx : listed.toList[i]'(by simpa using hlt) = false := by
    simp [hlt] at h
    simpa using h
  have hpos : 0 < listed.toList.count false := List.count_pos_iff.2 (by rw [← hx]; exact List.getElem_mem _)
  rw [Array.toList_setIfInBounds, List.count_set (by simpa using hlt), hx]
  have h1 : (if (false == false) = true then 1 else 0) = 1 := rfl
  have h2 : (if (true == false) = true then 1 else 0) = 0 := rfl
  rw [h1, h2]
  omega

theorem wpAny_of_midst {P : Program} {ops : Array Oper} {Q : Exit → Act → World → Prop} {gd : Nat → Nat} {le : World → World → Prop} {F : Nat → Value → World → Prop} {n : Nat} {ds : List Deferred} {w0 : World}
    (htrans : ∀ x y z, le x y → le y z → le x z) (hF : ∀ t v x y, le x y → F t v x → F t v y) (hfed : fed gd n ops = true)
    (hstep : ∀ (i : Nat) (o : Oper), ops[i]? = some o → StepOK P gd le F w0 o)
    (hfin : ∀ a w, a.tmps.size = n → a.defers = ds → le w0 w → (∀ t, F t (a.tmps[t]?.getD undef) w) → Q .normal a w) :
    ∀ (fuel : Nat) (listed : Array Bool) (a : Act) (w : World), listed.toList.count false ≤ fuel → Midst ops le F n ds w0 listed a w → wpAny P .any ops Q fuel listed a w := by
  have fin : ∀ (listed : Array Bool) (a : Act) (w : World), Midst ops le F n ds w0 listed a w → Region.ready .any ops listed = [] → Q .normal a w := fun listed a w hm hr =>
    hfin a w hm.tsize hm.defers hm.world fun t => hm.fact t fun i o hi _ => all_listed hfed hm.size hr i (Array.getElem?_eq_some_iff.1 hi).1
  intro fuel
  induction fuel with
  | zero =>
    intro listed a w hc hm
    have hr : Region.ready .any ops listed = [] := ready_nil_of fun i _ => count_zero (by omega) i
    exact ⟨hr, fin listed a w hm hr⟩
  | succ fuel ih =>
    intro listed a w hc hm
    refine ⟨fin listed a w hm, fun i hi => ?_⟩
    have hc' := count_set (mem_ready.1 hi).1
    exact wpOp_mono (fun a' w' hm' => ih _ a' w' (by omega) hm') (Midst.step htrans hF hfed hstep hm hi)

/-- **The region.** -/
theorem wp_region_facts {P : Program} {l : List Oper} {Q : Exit → Act → World → Prop} {id : Nat} {a0 : Act} {w : World} (hm : P.follows .mixedOrders = true)
    (gd : Nat → Nat) (le : World → World → Prop) (F : Nat → Value → World → Prop) (n : Nat)
    (hrefl : ∀ x, le x x) (htrans : ∀ x y z, le x y → le y z → le x z) (hF : ∀ t v x y, le x y → F t v x → F t v y)
    (hn : a0.tmps.size = n) (hfed : fed gd n l.toArray = true)
    (h0 : ∀ t, (l.any fun o => o.dst == some t) = false → F t (a0.tmps[t]?.getD undef) { w with drawn := w.drawn + 1 })
    (hstep : AllSteps (StepOK P gd le F { w with drawn := w.drawn + 1 }) l)
    (hfin : ∀ a w', a.tmps.size = n → a.defers = a0.defers → le { w with drawn := w.drawn + 1 } w' → (∀ t, F t (a.tmps[t]?.getD undef) w') → Q .normal a w') :
    (Code.region id l.toArray true).wp P Q a0 w := by
  refine wp_region_any hm (wpAny_of_midst htrans hF hfed (fun i o ho => hstep.at (i := i) (by simpa using ho)) hfin _ _ _ _ ?_ ⟨by simp, hn, rfl, hrefl _, fun t ht => h0 t ?_⟩)
  · simp
  · rw [List.any_eq_false]
    intro o ho hd
    obtain ⟨i, hi, hio⟩ := List.mem_iff_getElem.1 ho
    have := ht i o (by simp [hi, hio]) (by simpa using hd)
    simp [hi] at this

end Go.Proofs.Ytppdibblkaepjaa.Draw
