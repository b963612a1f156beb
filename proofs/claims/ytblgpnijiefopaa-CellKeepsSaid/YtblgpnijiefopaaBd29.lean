/-
  A region that draws its order, operation by operation (XDraw), where guarded operations may be passed over.
-/
import Derived.Test.YtblgpnijiefopaaBd22
namespace Go.Proofs.Ytblgpnijiefopaa.Draw
open Go

/-- One operation: it is run and leaves its own fact, or its guard is not met and its own fact stands of nothing. -/
def StepSk (P : Program) (gd : Nat → Nat) (le : World → World → Prop) (F : Nat → Value → World → Prop) (w0 : World) (o : Oper) : Prop :=
  ∀ (a : Act) (w : World), le w0 w → (∀ t, (looks gd o).contains t = true → F t (a.tmps[t]?.getD undef) w) →
    ((match o.guard with | some (g, b) => a.tmps[gd g]?.getD undef = .bool b | none => True) ∧
    ∀ (K : Act → World → Prop) (Q : Exit → Act → World → Prop), Shut (∀ v w', le w w' → F (o.dst.getD 0) v w' → K (a.put o.dst v) w') → o.wp P a w K Q) ∨
    ((match o.guard with | some (g, b) => a.tmps[gd g]?.getD undef = .bool (!b) ∨ a.tmps[gd g]?.getD undef = undef | none => False) ∧ F (o.dst.getD 0) undef w)
theorem StepOK.sk {P : Program} {gd : Nat → Nat} {le : World → World → Prop} {F : Nat → Value → World → Prop} {w0 : World} {o : Oper} (h : StepOK P gd le F w0 o) : StepSk P gd le F w0 o :=
  fun a w h1 h2 => .inl (h a w h1 h2)
theorem StepSk.skip {P : Program} {gd : Nat → Nat} {le : World → World → Prop} {F : Nat → Value → World → Prop} {w0 : World} {o : Oper}
    (h : ∀ (a : Act) (w : World), (∀ t, (looks gd o).contains t = true → F t (a.tmps[t]?.getD undef) w) → (match o.guard with | some (g, b) => a.tmps[gd g]?.getD undef = .bool (!b) ∨ a.tmps[gd g]?.getD undef = undef | none => False) ∧ F (o.dst.getD 0) undef w) : StepSk P gd le F w0 o :=
  fun a w _ h2 => .inr (h a w h2)

theorem unwanted_of {gd : Nat → Nat} {ops : Array Oper} {o : Oper} {a : Act}
    (hog : ∀ g b, o.guard = some (g, b) → ∃ og, ops[g]? = some og ∧ og.dst = some (gd g))
    (h : match o.guard with | some (g, b) => a.tmps[gd g]?.getD undef = .bool (!b) ∨ a.tmps[gd g]?.getD undef = undef | none => False) : Region.wanted o (yielded ops a.tmps) = false := by
  unfold Region.wanted
  cases hg : o.guard with
  | none => rw [hg] at h; exact h.elim
  | some gb =>
    obtain ⟨g, b⟩ := gb
    rw [hg] at h
    obtain ⟨og, h1, h2⟩ := hog g b hg
    simp only at h
    have h3 : yielded ops a.tmps g ≠ some b := by
      intro e
      simp only [yielded, h1, h2, Option.bind_some] at e
      cases hx : a.tmps[gd g]? with
      | none => rw [hx] at e; simp at e
      | some v =>
        rw [hx] at e h
        simp only [Option.getD_some] at h
        rcases h with h | h
        · subst h; cases b <;> simp at e
        · subst h; simp [undef] at e
    simpa using h3

theorem Midst.stepSk {P : Program} {ops : Array Oper} {Q : Exit → Act → World → Prop} {gd : Nat → Nat} {le : World → World → Prop} {F : Nat → Value → World → Prop} {n : Nat} {ds : List Deferred} {w0 : World}
    (hrefl : ∀ x, le x x) (htrans : ∀ x y z, le x y → le y z → le x z) (hF : ∀ t v x y, le x y → F t v x → F t v y) (hfed : fed gd n ops = true)
    (hstep : ∀ (i : Nat) (o : Oper), ops[i]? = some o → StepSk P gd le F w0 o)
    {listed : Array Bool} {a : Act} {w : World} (hm : Midst ops le F n ds w0 listed a w) {i : Nat} (hi : i ∈ Region.ready .any ops listed) :
    wpOp P ops Q i (fun a' w' => Midst ops le F n ds w0 (listed.setIfInBounds i true) a' w') a w := by
  obtain ⟨hun, o, ho, hall⟩ := mem_ready.1 hi
  obtain ⟨⟨d, hd, hdn⟩, -, hguard, hdep⟩ := fed_at hfed ho
  have hlook : ∀ t, (looks gd o).contains t = true → F t (a.tmps[t]?.getD undef) w := fun t ht =>
    hm.fact t fun j oj hj hdj => by
      obtain ⟨e, he, hb, rfl⟩ := hdep j oj t hj hdj ht
      exact hall e he hb
  have key : ∀ v w', le w w' → F (o.dst.getD 0) v w' → Midst ops le F n ds w0 (listed.setIfInBounds i true) (a.put o.dst v) w' := by
    intro v w' hle hv
    rw [hd] at hv ⊢
    refine ⟨by simp [hm.size], by simp [Act.put, hm.tsize], by simp [Act.put, hm.defers], htrans _ _ _ hm.world hle, fun t ht => ?_⟩
    by_cases htd : t = d
    · subst htd
      have : t < a.tmps.size := by rw [hm.tsize]; exact hdn
      simpa [Act.put, this] using hv
    · have hne : d ≠ t := fun h => htd h.symm
      have h1 : (a.put (some d) v).tmps[t]? = a.tmps[t]? := by simp [Act.put, Array.getElem?_setIfInBounds_ne hne]
      rw [h1]
      refine hF t _ _ _ hle (hm.fact t fun j oj hj hdj => ?_)
      have h2 := ht j oj hj hdj
      have hij : i ≠ j := fun h => by
        subst h
        rw [ho] at hj
        cases hj
        rw [hd] at hdj
        exact hne (by simpa using hdj)
      rwa [getD_set_ne false hij] at h2
  unfold wpOp
  rcases hstep i o ho a w hm.world hlook with ⟨hg, hrun⟩ | ⟨hg, hv⟩
  · simp only [ho, wanted_of hguard hg, if_true]
    exact .inl (hrun _ Q key)
  · simp only [ho, unwanted_of hguard hg, Bool.false_eq_true, if_false]
    exact key _ _ (hrefl _) hv

theorem wpAny_of_midstSk {P : Program} {ops : Array Oper} {Q : Exit → Act → World → Prop} {gd : Nat → Nat} {le : World → World → Prop} {F : Nat → Value → World → Prop} {n : Nat} {ds : List Deferred} {w0 : World}
    (hrefl : ∀ x, le x x) (htrans : ∀ x y z, le x y → le y z → le x z) (hF : ∀ t v x y, le x y → F t v x → F t v y) (hfed : fed gd n ops = true)
    (hstep : ∀ (i : Nat) (o : Oper), ops[i]? = some o → StepSk P gd le F w0 o)
    (hfin : ∀ a w, a.tmps.size = n → a.defers = ds → le w0 w → (∀ t, F t (a.tmps[t]?.getD undef) w) → Q .normal a w) :
    ∀ (fuel : Nat) (listed : Array Bool) (a : Act) (w : World), listed.toList.count false ≤ fuel → Midst ops le F n ds w0 listed a w → wpAny P .any ops Q fuel listed a w := by
  have fin : ∀ (listed : Array Bool) (a : Act) (w : World), Midst ops le F n ds w0 listed a w → Region.ready .any ops listed = [] → Q .normal a w := fun listed a w hm hr =>
    hfin a w hm.tsize hm.defers hm.world fun t => hm.fact t fun i o hi _ => all_listed hfed hm.size hr i (Array.getElem?_eq_some_iff.1 hi).1
  intro fuel
  induction fuel with
  | zero =>
    intro listed a w hc hm
    have hr : Region.ready .any ops listed = [] := ready_nil_of fun i _ => count_zero (by omega) i
    exact ⟨hr, fin listed a w hm hr⟩
  | succ fuel ih =>
    intro listed a w hc hm
    refine ⟨fin listed a w hm, fun i hi => ?_⟩
    have hc' := count_set (mem_ready.1 hi).1
    exact wpOp_mono (fun a' w' hm' => ih _ a' w' (by omega) hm') (Midst.stepSk hrefl htrans hF hfed hstep hm hi)

/-- **The region.** -/
theorem wp_region_factsSk {P : Program} {l : List Oper} {Q : Exit → Act → World → Prop} {id : Nat} {a0 : Act} {w : World} (hm : P.follows .mixedOrders = true)
    (gd : Nat → Nat) (le : World → World → Prop) (F : Nat → Value → World → Prop) (n : Nat)
    (hrefl : ∀ x, le x x) (htrans : ∀ x y z, le x y → le y z → le x z) (hF : ∀ t v x y, le x y → F t v x → F t v y)
    (hn : a0.tmps.size = n) (hfed : fed gd n l.toArray = true)
    (h0 : ∀ t, (l.any fun o => o.dst == some t) = false → F t (a0.tmps[t]?.getD undef) { w with drawn := w.drawn + 1 })
    (hstep : AllSteps (StepSk P gd le F { w with drawn := w.drawn + 1 }) l)
    (hfin : ∀ a w', a.tmps.size = n → a.defers = a0.defers → le { w with drawn := w.drawn + 1 } w' → (∀ t, F t (a.tmps[t]?.getD undef) w') → Q .normal a w') :
    (Code.region id l.toArray true).wp P Q a0 w := by
  refine wp_region_any hm (wpAny_of_midstSk hrefl htrans hF hfed (fun i o ho => hstep.at (i := i) (by simpa using ho)) hfin _ _ _ _ ?_ ⟨by simp, hn, rfl, hrefl _, fun t ht => h0 t ?_⟩)
  · simp
  · rw [List.any_eq_false]
    intro o ho hd
    obtain ⟨i, hi, hio⟩ := List.mem_iff_getElem.1 ho
    have := ht i o (by simp [hi, hio]) (by simpa using hd)
    simp [hi] at this

end Go.Proofs.Ytblgpnijiefopaa.Draw
