/-
  A region that draws its order of evaluation, shown operation by operation and not order by order. Each temporary has a fact (F) that stands while the world grows (le). If each operation, in any state in which the facts of the temporaries that it looks at stand, leaves its own temporary's fact, then all facts stand behind the region, whatever order was drawn. (The premises: every operation writes one temporary, and waits for the operations whose temporaries it looks at: 'fed', a test by computation.)
  A region that draws its order and ends with a store: all operations but the last go by facts (XDraw); the last waits for all of them and is shown once.
-/
import Derived.RegionTactic
import Derived.Deep.RegionHeld
namespace Go.Proofs.YtghmbmjikkdbnaaGreatDoor.Draw
open Go
def looks (gd : Nat → Nat) (o : Oper) : List Nat :=
  (o.op.operands.toList.filterMap fun | .tmp t => some t | _ => none) ++
  (match o.guard with
   | some (g, _) => [gd g]
   | none => [])
def fed (gd : Nat → Nat) (n : Nat) (ops : Array Oper) : Bool :=
  (List.range ops.size).all fun i => match ops[i]? with
   | none => true
   | some o => (match o.op with | .select _ _ => false | _ => true) && (match o.dst with | some d => decide (d < n) | none => false) &&
     (o.after.all fun e => decide (e.on < i)) &&
     (match o.guard with | some (g, _) => (match ops[g]? with | some og => og.dst == some (gd g) | none => false) | none => true) &&
     (List.range ops.size).all fun j => match ops[j]? with
        | none => true
        | some oj => (match oj.dst with | none => true | some dj => !(looks gd o).contains dj || o.after.any fun e => Region.binds .any e && e.on == j)
def StepOK (P : Program) (gd : Nat → Nat) (le : World → World → Prop) (F : Nat → Value → World → Prop) (w0 : World) (o : Oper) : Prop :=
  ∀ (a : Act) (w : World), le w0 w → (∀ t, (looks gd o).contains t = true → F t (a.tmps[t]?.getD undef) w) →
    (match o.guard with | some (g, b) => a.tmps[gd g]?.getD undef = .bool b | none => True) ∧
    ∀ (K : Act → World → Prop) (Q : Exit → Act → World → Prop), Shut (∀ v w', le w w' → F (o.dst.getD 0) v w' → K (a.put o.dst v) w') → o.wp P a w K Q
def AllSteps (p : Oper → Prop) : List Oper → Prop
  | [] => True
  | o :: l => p o ∧ AllSteps p l
theorem AllSteps.nil {p : Oper → Prop} : AllSteps p [] := trivial
theorem AllSteps.cons {p : Oper → Prop} {o : Oper} {l : List Oper} (h : p o) (hs : AllSteps p l) : AllSteps p (o :: l) := ⟨h, hs⟩
theorem AllSteps.at {p : Oper → Prop} : ∀ {l : List Oper}, AllSteps p l → ∀ {i : Nat} {o : Oper}, l[i]? = some o → p o
  | [], _, i, o, h => by simp at h
  | x :: l, hs, 0, o, h => by simp at h; exact h ▸ hs.1
  | x :: l, hs, i + 1, o, h => AllSteps.at hs.2 (by simpa using h)
structure Midst (ops : Array Oper) (le : World → World → Prop) (F : Nat → Value → World → Prop) (n : Nat) (ds : List Deferred) (w0 : World) (listed : Array Bool) (a : Act) (w : World) : Prop where
  size : listed.size = ops.size
  tsize : a.tmps.size = n
  defers : a.defers = ds
  world : le w0 w
  fact : ∀ t, (∀ (i : Nat) (o : Oper), ops[i]? = some o → o.dst = some t → listed.getD i false = true) → F t (a.tmps[t]?.getD undef) w
theorem fed_at {gd : Nat → Nat} {n : Nat} {ops : Array Oper} (h : fed gd n ops = true) {i : Nat} {o : Oper} (hi : ops[i]? = some o) :
    (∃ d, o.dst = some d ∧ d < n) ∧ (∀ e ∈ o.after, e.on < i) ∧
    (∀ g b, o.guard = some (g, b) → ∃ og, ops[g]? = some og ∧ og.dst = some (gd g)) ∧
    (∀ j oj dj, ops[j]? = some oj → oj.dst = some dj → (looks gd o).contains dj = true → ∃ e ∈ o.after, Region.binds .any e = true ∧ e.on = j) := by
  have hlt : i < ops.size := (Array.getElem?_eq_some_iff.1 hi).1
  unfold fed at h
  rw [List.all_eq_true] at h
  have h1 := h i (List.mem_range.2 hlt)
  rw [hi] at h1
  simp only [Bool.and_eq_true] at h1
  obtain ⟨⟨⟨⟨-, h2⟩, h3⟩, h4⟩, h5⟩ := h1
  refine ⟨?_, ?_, ?_, ?_⟩
  · cases hd : o.dst with
    | none => rw [hd] at h2; cases h2
    | some d => rw [hd] at h2; exact ⟨d, rfl, by simpa using h2⟩
  · intro e he
    rw [Array.all_eq_true_iff_forall_mem] at h3
    simpa using h3 e he
  · intro g b hg
    rw [hg] at h4
    cases hog : ops[g]? with
    | none => simp [hog] at h4
    | some og => simp [hog] at h4; exact ⟨og, rfl, h4⟩
  · intro j oj dj hj hdj hl
    have hjlt : j < ops.size := (Array.getElem?_eq_some_iff.1 hj).1
    rw [List.all_eq_true] at h5
    have h6 := h5 j (List.mem_range.2 hjlt)
    rw [hj] at h6
    simp only [hdj, hl, Bool.not_true, Bool.false_or] at h6
    rw [Array.any_eq_true'] at h6
    obtain ⟨e, he, hh⟩ := h6
    simp only [Bool.and_eq_true, beq_iff_eq] at hh
    exact ⟨e, he, hh.1, hh.2⟩
theorem wanted_of {gd : Nat → Nat} {ops : Array Oper} {o : Oper} {a : Act}
    (hog : ∀ g b, o.guard = some (g, b) → ∃ og, ops[g]? = some og ∧ og.dst = some (gd g))
    (h : match o.guard with | some (g, b) => a.tmps[gd g]?.getD undef = .bool b | none => True) : Region.wanted o (yielded ops a.tmps) = true := by
  unfold Region.wanted
  cases hg : o.guard with
  | none => rfl
  | some gb =>
    obtain ⟨g, b⟩ := gb
    rw [hg] at h
    obtain ⟨og, h1, h2⟩ := hog g b hg
    simp only at h
    have h3 : a.tmps[gd g]? = some (.bool b) := by
      cases hx : a.tmps[gd g]? with
      | none => rw [hx] at h; exact absurd h (by simp [undef])
      | some v => rw [hx] at h; simpa using h
    simp [yielded, h1, h2, h3]
theorem Midst.step {P : Program} {ops : Array Oper} {Q : Exit → Act → World → Prop} {gd : Nat → Nat} {le : World → World → Prop} {F : Nat → Value → World → Prop} {n : Nat} {ds : List Deferred} {w0 : World}
    (htrans : ∀ x y z, le x y → le y z → le x z) (hF : ∀ t v x y, le x y → F t v x → F t v y) (hfed : fed gd n ops = true)
    (hstep : ∀ (i : Nat) (o : Oper), ops[i]? = some o → StepOK P gd le F w0 o)
    {listed : Array Bool} {a : Act} {w : World} (hm : Midst ops le F n ds w0 listed a w) {i : Nat} (hi : i ∈ Region.ready .any ops listed) :
    wpOp P ops Q i (fun a' w' => Midst ops le F n ds w0 (listed.setIfInBounds i true) a' w') a w := by
  obtain ⟨hun, o, ho, hall⟩ := mem_ready.1 hi
  obtain ⟨⟨d, hd, hdn⟩, -, hguard, hdep⟩ := fed_at hfed ho
  have hlook : ∀ t, (looks gd o).contains t = true → F t (a.tmps[t]?.getD undef) w := fun t ht =>
    hm.fact t fun j oj hj hdj => by
      obtain ⟨e, he, hb, rfl⟩ := hdep j oj t hj hdj ht
      exact hall e he hb
  obtain ⟨hg, hrun⟩ := hstep i o ho a w hm.world hlook
  unfold wpOp
  simp only [ho, wanted_of hguard hg, if_true]
  refine .inl (hrun _ Q (fun v w' hle hv => ?_))
  rw [hd] at hv ⊢
  refine ⟨by simp [hm.size], by simp [Act.put, hm.tsize], by simp [Act.put, hm.defers], htrans _ _ _ hm.world hle, fun t ht => ?_⟩
  by_cases htd : t = d
  · subst htd
    have : t < a.tmps.size := by rw [hm.tsize]; exact hdn
    simpa [Act.put, this] using hv
  · have hne : d ≠ t := fun h => htd h.symm
    have h1 : (a.put (some d) v).tmps[t]? = a.tmps[t]? := by simp [Act.put, Array.getElem?_setIfInBounds_ne hne]
    rw [h1]
    refine hF t _ _ _ hle (hm.fact t fun j oj hj hdj => ?_)
    have h2 := ht j oj hj hdj
    have hij : i ≠ j := fun h => by
      subst h
      rw [ho] at hj
      cases hj
      rw [hd] at hdj
      exact hne (by simpa using hdj)
    rwa [getD_set_ne false hij] at h2
theorem least_false (listed : Array Bool) : ∀ m, m ≤ listed.size → (∀ i, i < m → listed.getD i false = true) ∨ ∃ i, i < m ∧ listed.getD i true = false ∧ ∀ j, j < i → listed.getD j false = true
  | 0, _ => .inl fun i h => absurd h (Nat.not_lt_zero i)
  | m + 1, hm => by
    rcases least_false listed m (by omega) with h | ⟨i, hi, h1, h2⟩
    · have hlt : m < listed.size := by omega
      cases hx : listed[m] with
      | true =>
        refine .inl fun i hi => ?_
        rcases Nat.lt_or_ge i m with h' | h'
        · exact h i h'
        · have : i = m := by omega
          subst this
          simp [hlt, hx]
      | false => exact .inr ⟨m, by omega, by simp [hlt, hx], h⟩
    · exact .inr ⟨i, by omega, h1, h2⟩
theorem ready_nil_of {ops : Array Oper} {listed : Array Bool} (h : ∀ i, i < ops.size → listed.getD i true = true) : Region.ready .any ops listed = [] := by
  cases hr : Region.ready .any ops listed with
  | nil => rfl
  | cons x xs =>
    have hx : x ∈ Region.ready .any ops listed := by rw [hr]; exact List.mem_cons_self ..
    obtain ⟨h0, o, ho, -⟩ := mem_ready.1 hx
    rw [h x (Array.getElem?_eq_some_iff.1 ho).1] at h0
    cases h0
theorem count_zero {listed : Array Bool} (h : listed.toList.count false = 0) : ∀ i, listed.getD i true = true := by
  intro i
  cases hx : listed[i]? with
  | none => simp [hx]
  | some b =>
    cases b with
    | true => simp [hx]
    | false =>
      exfalso
      have : false ∈ listed.toList := by
        rw [Array.mem_toList_iff]
        exact Array.mem_of_getElem? hx
      exact absurd (List.count_pos_iff.2 this) (by omega)
theorem count_set {listed : Array Bool} {i : Nat} (h : listed.getD i true = false) : (listed.setIfInBounds i true).toList.count false + 1 = listed.toList.count false := by
  have hlt : i < listed.size := by
    rcases Nat.lt_or_ge i listed.size with h' | h'
    · exact h'
    · simp [Array.getElem?_eq_none h'] at h
  have hx : listed.toList[i]'(by simpa using hlt) = false := by
    simp [hlt] at h
    simpa using h
  have hpos : 0 < listed.toList.count false := List.count_pos_iff.2 (by rw [← hx]; exact List.getElem_mem _)
  rw [Array.toList_setIfInBounds, List.count_set (by simpa using hlt), hx]
  have h1 : (if (false == false) = true then 1 else 0) = 1 := rfl
  have h2 : (if (true == false) = true then 1 else 0) = 0 := rfl
  rw [h1, h2]
  omega
end Go.Proofs.YtghmbmjikkdbnaaGreatDoor.Draw

namespace Go.Proofs.YtghmbmjikkdbnaaGreatDoor.Draw
open Go
def waits (m : Nat) (o : Oper) : Bool := (List.range m).all (fun i => o.after.any fun e => Region.binds .any e && e.on == i) && o.after.all fun e => decide (e.on < m)
structure MidL (front : Array Oper) (last : Oper) (le : World → World → Prop) (F : Nat → Value → World → Prop) (n : Nat) (ds : List Deferred) (w0 : World) (listed : Array Bool) (a : Act) (w : World) : Prop where
  size : listed.size = front.size + 1
  open_ : listed.getD front.size true = false
  tsize : a.tmps.size = n
  defers : a.defers = ds
  world : le w0 w
  fact : ∀ t, (∀ (i : Nat) (o : Oper), front[i]? = some o → o.dst = some t → listed.getD i false = true) → F t (a.tmps[t]?.getD undef) w
theorem push_at {front : Array Oper} {last : Oper} {i : Nat} {o : Oper} (h : (front.push last)[i]? = some o) : (i < front.size ∧ front[i]? = some o) ∨ (i = front.size ∧ o = last) := by
  rw [Array.getElem?_push] at h
  split at h
  · rename_i e
    right; exact ⟨e, by simpa using h.symm⟩
  · left
    exact ⟨(Array.getElem?_eq_some_iff.1 h).1, h⟩
theorem front_at {front : Array Oper} {last : Oper} {i : Nat} {o : Oper} (h : front[i]? = some o) : (front.push last)[i]? = some o := by
  have hlt := (Array.getElem?_eq_some_iff.1 h).1
  rw [Array.getElem?_push, if_neg (by omega)]
  exact h
theorem wanted_front {gd : Nat → Nat} {front : Array Oper} {last : Oper} {o : Oper} {a : Act}
    (hog : ∀ g b, o.guard = some (g, b) → ∃ og, front[g]? = some og ∧ og.dst = some (gd g))
    (h : match o.guard with | some (g, b) => a.tmps[gd g]?.getD undef = .bool b | none => True) : Region.wanted o (yielded (front.push last) a.tmps) = true :=
  wanted_of (gd := gd) (fun g b hg => by obtain ⟨og, h1, h2⟩ := hog g b hg; exact ⟨og, front_at h1, h2⟩) h
theorem MidL.step {P : Program} {front : Array Oper} {last : Oper} {Q : Exit → Act → World → Prop} {gd : Nat → Nat} {le : World → World → Prop} {F : Nat → Value → World → Prop} {n : Nat} {ds : List Deferred} {w0 : World}
    (htrans : ∀ x y z, le x y → le y z → le x z) (hF : ∀ t v x y, le x y → F t v x → F t v y) (hfed : fed gd n front = true)
    (hstep : ∀ (i : Nat) (o : Oper), front[i]? = some o → StepOK P gd le F w0 o)
    {listed : Array Bool} {a : Act} {w : World} (hm : MidL front last le F n ds w0 listed a w) {i : Nat} (hlt : i < front.size) (hi : i ∈ Region.ready .any (front.push last) listed) :
    wpOp P (front.push last) Q i (fun a' w' => MidL front last le F n ds w0 (listed.setIfInBounds i true) a' w') a w := by
  obtain ⟨hun, o, ho', hall⟩ := mem_ready.1 hi
  have ho : front[i]? = some o := by
    rcases push_at ho' with ⟨-, h⟩ | ⟨h, -⟩
    · exact h
    · omega
  obtain ⟨⟨d, hd, hdn⟩, -, hguard, hdep⟩ := fed_at hfed ho
  have hlook : ∀ t, (looks gd o).contains t = true → F t (a.tmps[t]?.getD undef) w := fun t ht =>
    hm.fact t fun j oj hj hdj => by
      obtain ⟨e, he, hb, rfl⟩ := hdep j oj t hj hdj ht
      exact hall e he hb
  obtain ⟨hg, hrun⟩ := hstep i o ho a w hm.world hlook
  unfold wpOp
  simp only [ho', wanted_front hguard hg, if_true]
  refine .inl (hrun _ Q (fun v w' hle hv => ?_))
  rw [hd] at hv ⊢
  refine ⟨by simp [hm.size], by rw [getD_set_ne true (by omega)]; exact hm.open_, by simp [Act.put, hm.tsize], by simp [Act.put, hm.defers], htrans _ _ _ hm.world hle, fun t ht => ?_⟩
  by_cases htd : t = d
  · subst htd
    have : t < a.tmps.size := by rw [hm.tsize]; exact hdn
    simpa [Act.put, this] using hv
  · have hne : d ≠ t := fun h => htd h.symm
    have h1 : (a.put (some d) v).tmps[t]? = a.tmps[t]? := by simp [Act.put, Array.getElem?_setIfInBounds_ne hne]
    rw [h1]
    refine hF t _ _ _ hle (hm.fact t fun j oj hj hdj => ?_)
    have h2 := ht j oj hj hdj
    have hij : i ≠ j := fun h => by
      subst h
      rw [ho] at hj
      cases hj
      rw [hd] at hdj
      exact hne (by simpa using hdj)
    rwa [getD_set_ne false hij] at h2
theorem waits_at {m : Nat} {o : Oper} (h : waits m o = true) : (∀ i, i < m → ∃ e ∈ o.after, Region.binds .any e = true ∧ e.on = i) ∧ ∀ e ∈ o.after, e.on < m := by
  unfold waits at h
  rw [Bool.and_eq_true, List.all_eq_true, Array.all_eq_true_iff_forall_mem] at h
  refine ⟨fun i hi => ?_, fun e he => by simpa using h.2 e he⟩
  have := h.1 i (List.mem_range.2 hi)
  rw [Array.any_eq_true'] at this
  obtain ⟨e, he, hh⟩ := this
  simp only [Bool.and_eq_true, beq_iff_eq] at hh
  exact ⟨e, he, hh.1, hh.2⟩
theorem wpAny_of_midL {P : Program} {front : Array Oper} {last : Oper} {Q : Exit → Act → World → Prop} {gd : Nat → Nat} {le : World → World → Prop} {F : Nat → Value → World → Prop} {n : Nat} {ds : List Deferred} {w0 : World}
    (htrans : ∀ x y z, le x y → le y z → le x z) (hF : ∀ t v x y, le x y → F t v x → F t v y) (hfed : fed gd n front = true) (hw : waits front.size last = true) (hlg : last.guard = none)
    (hstep : ∀ (i : Nat) (o : Oper), front[i]? = some o → StepOK P gd le F w0 o)
    (hfin : ∀ a w, a.tmps.size = n → a.defers = ds → le w0 w → (∀ t, F t (a.tmps[t]?.getD undef) w) → last.wp P a w (fun a' w' => Q .normal a' w') Q) :
    ∀ (fuel : Nat) (listed : Array Bool) (a : Act) (w : World), listed.toList.count false ≤ fuel → MidL front last le F n ds w0 listed a w → wpAny P .any (front.push last) Q fuel listed a w := by
  obtain ⟨hw1, hw2⟩ := waits_at hw
  have last_ready : ∀ (listed : Array Bool) (a : Act) (w : World), MidL front last le F n ds w0 listed a w → (∀ i, i < front.size → listed.getD i false = true) → front.size ∈ Region.ready .any (front.push last) listed := by
    intro listed a w hm h
    exact mem_ready.2 ⟨hm.open_, last, by simp, fun e he _ => h _ (hw2 e he)⟩
  have none_left : ∀ (listed : Array Bool) (a : Act) (w : World), MidL front last le F n ds w0 listed a w → Region.ready .any (front.push last) listed = [] → False := by
    intro listed a w hm hr
    have hall : ∀ i, i < front.size → listed.getD i false = true := by
      rcases least_false listed front.size (by rw [hm.size]; omega) with h | ⟨i, hi, h1, h2⟩
      · exact h
      · exfalso
        have hmem : i ∈ Region.ready .any (front.push last) listed := by
          refine mem_ready.2 ⟨h1, front[i], front_at (by simp [hi]), fun e he _ => ?_⟩
          exact h2 _ ((fed_at hfed (by simp [hi])).2.1 e he)
        rw [hr] at hmem
        cases hmem
    have := last_ready listed a w hm hall
    rw [hr] at this
    cases this
  intro fuel
  induction fuel with
  | zero =>
    intro listed a w hc hm
    exfalso
    have q := count_zero (listed := listed) (by omega) front.size
    rw [hm.open_] at q
    cases q
  | succ fuel ih =>
    intro listed a w hc hm
    refine ⟨fun hr => absurd hr (fun hr => none_left listed a w hm hr), fun i hi => ?_⟩
    have hc' := count_set (mem_ready.1 hi).1
    obtain ⟨hun, o, ho, hall⟩ := mem_ready.1 hi
    rcases push_at ho with ⟨hlt, -⟩ | ⟨rfl, rfl⟩
    · exact wpOp_mono (fun a' w' hm' => ih _ a' w' (by omega) hm') (MidL.step htrans hF hfed hstep hm hlt hi)
    · have hfr : ∀ i, i < front.size → listed.getD i false = true := fun i hi => by
        obtain ⟨e, he, hb, rfl⟩ := hw1 i hi
        exact hall e he hb
      have run := hfin a w hm.tsize hm.defers hm.world fun t => hm.fact t fun i o hi _ => hfr i (Array.getElem?_eq_some_iff.1 hi).1
      have full : ∀ i, i < (front.push o).size → (listed.setIfInBounds front.size true).getD i true = true := by
        intro i hi2
        by_cases e : i = front.size
        · subst e
          have : front.size < listed.size := by rw [hm.size]; omega
          simp [this]
        · rw [getD_set_ne true (by omega)]
          have hlt : i < front.size := by simp at hi2; omega
          have h1 := hfr i hlt
          have : i < listed.size := by rw [hm.size]; omega
          simpa [this] using h1
      unfold wpOp
      have hwt : Region.wanted o (yielded (front.push o) a.tmps) = true := by unfold Region.wanted; rw [hlg]
      simp only [ho, hwt, if_true]
      refine .inl ?_
      refine Oper.wp_mono (fun a' w' hq => ?_) run
      have hr := ready_nil_of (ops := front.push o) full
      cases fuel with
      | zero => exact ⟨hr, hq⟩
      | succ f => exact ⟨fun _ => hq, fun i hi => by rw [hr] at hi; cases hi⟩
theorem wp_region_last {P : Program} {l : List Oper} {last : Oper} {Q : Exit → Act → World → Prop} {id : Nat} {a0 : Act} {w : World} (hm : P.follows .mixedOrders = true)
    (gd : Nat → Nat) (le : World → World → Prop) (F : Nat → Value → World → Prop) (n : Nat)
    (hrefl : ∀ x, le x x) (htrans : ∀ x y z, le x y → le y z → le x z) (hF : ∀ t v x y, le x y → F t v x → F t v y)
    (hn : a0.tmps.size = n) (hfed : fed gd n l.toArray = true) (hw : waits l.length last = true) (hlg : last.guard = none)
    (h0 : ∀ t, (l.any fun o => o.dst == some t) = false → F t (a0.tmps[t]?.getD undef) { w with drawn := w.drawn + 1 })
    (hstep : AllSteps (StepOK P gd le F { w with drawn := w.drawn + 1 }) l)
    (hfin : ∀ a w', a.tmps.size = n → a.defers = a0.defers → le { w with drawn := w.drawn + 1 } w' → (∀ t, F t (a.tmps[t]?.getD undef) w') → last.wp P a w' (fun a' w' => Q .normal a' w') Q) :
    (Code.region id (l.toArray.push last) true).wp P Q a0 w := by
  refine wp_region_any hm (wpAny_of_midL htrans hF hfed (by simpa using hw) hlg (fun i o ho => hstep.at (i := i) (by simpa using ho)) hfin _ _ _ _ ?_ ⟨by simp, by simp, hn, rfl, hrefl _, fun t ht => h0 t ?_⟩)
  · simp
  · rw [List.any_eq_false]
    intro o ho hd
    obtain ⟨i, hi, hio⟩ := List.mem_iff_getElem.1 ho
    have := ht i o (by simp [hi, hio]) (by simpa using hd)
    have h2 : i < l.length + 1 := by omega
    simp [h2] at this
theorem wp_region_last' {P : Program} {ops : Array Oper} {l : List Oper} {last : Oper} {Q : Exit → Act → World → Prop} {id : Nat} {a0 : Act} {w : World} (hops : ops = l.toArray.push last) (hm : P.follows .mixedOrders = true)
    (gd : Nat → Nat) (le : World → World → Prop) (F : Nat → Value → World → Prop) (n : Nat)
    (hrefl : ∀ x, le x x) (htrans : ∀ x y z, le x y → le y z → le x z) (hF : ∀ t v x y, le x y → F t v x → F t v y)
    (hn : a0.tmps.size = n) (hfed : fed gd n l.toArray = true) (hw : waits l.length last = true) (hlg : last.guard = none)
    (h0 : ∀ t, (l.any fun o => o.dst == some t) = false → F t (a0.tmps[t]?.getD undef) { w with drawn := w.drawn + 1 })
    (hstep : AllSteps (StepOK P gd le F { w with drawn := w.drawn + 1 }) l)
    (hfin : ∀ a w', a.tmps.size = n → a.defers = a0.defers → le { w with drawn := w.drawn + 1 } w' → (∀ t, F t (a.tmps[t]?.getD undef) w') → last.wp P a w' (fun a' w' => Q .normal a' w') Q) :
    (Code.region id ops true).wp P Q a0 w := by
  subst hops
  exact wp_region_last hm gd le F n hrefl htrans hF hn hfed hw hlg h0 hstep hfin
theorem rows_mid2 (tm : Array Value) (L : List Value) (lo n : Nat) (hsz : tm.size = L.length) (hn : lo + n ≤ L.length) (hf : ∀ t, t < lo ∨ lo + n ≤ t → tm[t]?.getD undef = L[t]?.getD undef) :
    tm = (L.take lo ++ (List.range' lo n).map (fun t => tm[t]?.getD undef) ++ L.drop (lo + n)).toArray := by
  refine Array.ext (by simp [hsz]; omega) fun i h1 h2 => ?_
  have e : tm[i] = tm[i]?.getD undef := by simp [h1]
  have hL : i < L.length := by omega
  rw [e]
  simp only [List.getElem_toArray]
  rcases Nat.lt_or_ge i lo with hi | hi
  · rw [List.getElem_append_left (by simp; omega), List.getElem_append_left (by simp; omega), List.getElem_take, hf i (Or.inl hi)]
    simp [hL]
  · rcases Nat.lt_or_ge i (lo + n) with hi2 | hi2
    · rw [List.getElem_append_left (by simp; omega), List.getElem_append_right (by simp; omega)]
      simp only [List.getElem_map, List.getElem_range', List.length_take]
      rw [show lo + 1 * (i - min lo L.length) = i by omega]
    · rw [List.getElem_append_right (by simp; omega), hf i (Or.inr hi2)]
      simp only [List.getElem_drop, List.length_append, List.length_take, List.length_map, List.length_range']
      rw [List.getElem?_eq_getElem hL]
      simp only [Option.getD_some]
      congr 1
      omega
theorem wp_region_lastL {P : Program} {ops : Array Oper} {l : List Oper} {last : Oper} {Q : Exit → Act → World → Prop} {id : Nat} {L : List Value} {ds : List Deferred} {w : World} (hops : ops = l.toArray.push last) (hm : P.follows .mixedOrders = true)
    (gd : Nat → Nat) (le : World → World → Prop) (F : List Value → Nat → Value → World → Prop) (lo n : Nat)
    (hrefl : ∀ x, le x x) (htrans : ∀ x y z, le x y → le y z → le x z) (hF : ∀ t v x y, le x y → F L t v x → F L t v y)
    (hfed : fed gd L.length l.toArray = true) (hw : waits l.length last = true) (hlg : last.guard = none) (hn : lo + n ≤ L.length)
    (hout : ∀ t v w, t < lo ∨ lo + n ≤ t → F L t v w → v = L[t]?.getD undef)
    (h0 : ∀ t, (l.any fun o => o.dst == some t) = false → F L t (L[t]?.getD undef) w.drew)
    (hstep : AllSteps (StepOK P gd le (F L) w.drew) l)
    (hfin : ∀ (g : Nat → Value) w', le w.drew w' → (∀ t, F L t (g t) w') → last.wp P ⟨(L.take lo ++ (List.range' lo n).map g ++ L.drop (lo + n)).toArray, ds⟩ w' (fun a' w' => Q .normal a' w') Q) :
    (Code.region id ops true).wp P Q ⟨L.toArray, ds⟩ w := by
  refine wp_region_last' hops hm gd le (F L) L.length hrefl htrans hF (by simp) hfed hw hlg (fun t ht => by simpa using h0 t ht) hstep ?_
  rintro ⟨tm, ds'⟩ w' hsz hds hle H
  simp only at hds hsz
  subst hds
  have := rows_mid2 tm L lo n hsz hn fun t ht => hout t _ w' ht (H t)
  rw [this]
  exact hfin (fun t => tm[t]?.getD undef) w' hle H
end Go.Proofs.YtghmbmjikkdbnaaGreatDoor.Draw
