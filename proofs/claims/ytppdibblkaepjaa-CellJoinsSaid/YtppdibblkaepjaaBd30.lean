/-
  Facts on values that stand while the world grows, and a drawn region by a table of them.
-/
import Derived.Test.YtppdibblkaepjaaBd29
import Derived.Test.YtppdibblkaepjaaBd2
namespace Go.Proofs.Ytppdibblkaepjaa.Shape
open Go.RowKit Go.Proofs.Ytppdibblkaepjaa.Draw

/-- A fact on a temporary. -/
inductive Fact where
  | any
  | val (v : Value)
  | ints (L : List Int)
  | arr (A : Arr)
  | arrs (As : List Arr)
def Fact.isAny : Fact → Bool
  | .any => true
  | _ => false
def Fact.holds : Fact → Value → World → Prop
  | .any, _, _ => True
  | .val u, v, _ => v = u
  | .ints L, v, w => ∃ a c, v = .slice a L.length c ∧ IntsAt w a c L
  | .arr A, v, w => ∃ k sa ls sc na ln nc ia li ic, v = .agg #[.int .i64 k, .slice sa ls sc, .slice na ln nc, .slice ia li ic] ∧ ArrAt w (.agg #[.int .i64 k, .slice sa ls sc, .slice na ln nc, .slice ia li ic]) A
  | .arrs As, v, w => ∃ b c, v = .slice (some ⟨b, 0, none⟩) As.length c ∧ Hid (As.length ≤ c ∧ c ≤ 9223372036854775807) ∧ ArrsAt w b 0 As
theorem Fact.mono {x y : World} (h : Below x.heap.size x y) : ∀ (f : Fact) (v : Value), f.holds v x → f.holds v y
  | .any, _, _ => trivial
  | .val _, _, e => e
  | .ints _, _, ⟨a, c, e, i⟩ => ⟨a, c, e, i.below h⟩
  | .arr _, _, ⟨k, sa, ls, sc, na, ln, nc, ia, li, ic, e, i⟩ => ⟨k, sa, ls, sc, na, ln, nc, ia, li, ic, e, i.below h⟩
  | .arrs _, _, ⟨b, c, e, hc, i⟩ => ⟨b, c, e, hc, i.below h⟩
def factAt (tab : List Fact) (t : Nat) : Fact := tab.getD t .any

/-- The facts of some temporaries, one after the other. -/
def Outs (tab : List Fact) (a : Act) (w : World) : List Nat → Prop
  | [] => True
  | t :: ts => (factAt tab t).holds (a.tmps[t]?.getD undef) w ∧ Outs tab a w ts
theorem Outs.at {tab : List Fact} {a : Act} {w : World} : ∀ {ts : List Nat}, Outs tab a w ts → ∀ t ∈ ts, (factAt tab t).holds (a.tmps[t]?.getD undef) w
  | [], _, t, ht => by cases ht
  | _ :: _, h, t, ht => by
    rcases List.mem_cons.1 ht with rfl | ht
    · exact h.1
    · exact Outs.at h.2 t ht

def grew (x y : World) : Prop := Below x.heap.size x y
theorem grew.refl (x : World) : grew x x := Below.refl _ _
theorem grew.trans {x y z : World} (h : grew x y) (g : grew y z) : grew x z := Below.then h g

/-- The check of the table: each temporary that has a fact is written in the region or named ahead of it. -/
def covered (tab : List Fact) (l : List Oper) (outs : List Nat) : Bool :=
  (List.range tab.length).all fun t => (factAt tab t).isAny || (l.any fun o => o.dst == some t) || outs.contains t

theorem tab_out {tab : List Fact} {t : Nat} {f : Fact} {v : Value} {w : World} (e : factAt tab t = f) (h : f.holds v w) : (factAt tab t).holds v w := e ▸ h

theorem wp_region_tab {P : Program} {l : List Oper} {Q : Exit → Act → World → Prop} {id : Nat} {a0 : Act} {w : World} (hm : P.follows .mixedOrders = true)
    (gd : Nat → Nat) (tab : List Fact) (outs : List Nat) (hfed : fed gd a0.tmps.size l.toArray = true) (hcov : covered tab l outs = true)
    (h0 : Outs tab a0 w.drew outs)
    (hstep : AllSteps (StepOK P gd grew (fun t => (factAt tab t).holds) w.drew) l)
    (hfin : ∀ a w', a.tmps.size = a0.tmps.size → a.defers = a0.defers → grew w.drew w' → (∀ t, (factAt tab t).holds (a.tmps[t]?.getD undef) w') → Q .normal a w') :
    (Code.region id l.toArray true).wp P Q a0 w := by
  refine wp_region_facts hm gd grew (fun t => (factAt tab t).holds) a0.tmps.size grew.refl (fun _ _ _ => grew.trans) (fun t v x y h => Fact.mono h _ v) rfl hfed (fun t ht => ?_) hstep hfin
  rcases Nat.lt_or_ge t tab.length with hlt | hge
  · unfold covered at hcov
    rw [List.all_eq_true] at hcov
    have h1 := hcov t (List.mem_range.2 hlt)
    rw [ht] at h1
    simp only [Bool.or_false, Bool.or_eq_true, List.contains_iff_mem] at h1
    rcases h1 with h1 | h1
    · cases hf : factAt tab t with
      | any => trivial
      | _ => rw [hf] at h1; cases h1
    · exact Outs.at h0 t h1
  · have : factAt tab t = .any := by simp [factAt, List.getElem?_eq_none hge]
    rw [this]; trivial

end Go.Proofs.Ytppdibblkaepjaa.Shape
