/-
  A drawn region by a table of facts, where guarded operations may be passed over; and Few where an array has no items.
  A drawn region by a table of facts, where what follows wants all temporaries: those that the region does not write are as they were.
-/
import Derived.Test.YtblgpnijiefopaaBd23
import Derived.Test.YtblgpnijiefopaaBd29
import Derived.Test.YtblgpnijiefopaaBd5
namespace Go.Proofs.Ytblgpnijiefopaa.Shape
open Go.RowKit Go.Proofs.Ytblgpnijiefopaa.Draw

/-- A fact on a temporary, or the address of a cell that holds u. -/
inductive FactS where
  | f (x : Fact)
  | ptr (u : Value)
def FactS.isAny : FactS → Bool
  | .f x => x.isAny
  | .ptr _ => false
def FactS.holds : FactS → Value → World → Prop
  | .f x, v, w => x.holds v w
  | .ptr u, v, w => ∃ b o, v = .pointer (some ⟨b, o, none⟩) ∧ w.cell? ⟨b, o, none⟩ = some u
theorem FactS.mono {x y : World} (h : Below x.heap.size x y) : ∀ (f : FactS) (v : Value), f.holds v x → f.holds v y
  | .f x, v, g => Fact.mono h x v g
  | .ptr _, _, ⟨b, o, e, g⟩ => ⟨b, o, e, (h.cell (cell_lt g)).trans g⟩
def factS (tab : List FactS) (t : Nat) : FactS := tab.getD t (.f .any)
def OutsS (tab : List FactS) (a : Act) (w : World) : List Nat → Prop
  | [] => True
  | t :: ts => (factS tab t).holds (a.tmps[t]?.getD undef) w ∧ OutsS tab a w ts
theorem OutsS.at {tab : List FactS} {a : Act} {w : World} : ∀ {ts : List Nat}, OutsS tab a w ts → ∀ t ∈ ts, (factS tab t).holds (a.tmps[t]?.getD undef) w
  | [], _, t, ht => by cases ht
  | _ :: _, h, t, ht => by
    rcases List.mem_cons.1 ht with rfl | ht
    · exact h.1
    · exact OutsS.at h.2 t ht
def coveredS (tab : List FactS) (l : List Oper) (outs : List Nat) : Bool :=
  (List.range tab.length).all fun t => (factS tab t).isAny || (l.any fun o => o.dst == some t) || outs.contains t
theorem tabS_out {tab : List FactS} {t : Nat} {f : FactS} {v : Value} {w : World} (e : factS tab t = f) (h : f.holds v w) : (factS tab t).holds v w := e ▸ h
theorem wp_region_tabS {P : Program} {l : List Oper} {Q : Exit → Act → World → Prop} {id : Nat} {a0 : Act} {w : World} (hm : P.follows .mixedOrders = true)
    (gd : Nat → Nat) (tab : List FactS) (outs : List Nat) (hfed : fed gd a0.tmps.size l.toArray = true) (hcov : coveredS tab l outs = true)
    (h0 : OutsS tab a0 w.drew outs)
    (hstep : AllSteps (StepSk P gd grew (fun t => (factS tab t).holds) w.drew) l)
    (hfin : ∀ a w', a.tmps.size = a0.tmps.size → a.defers = a0.defers → grew w.drew w' → (∀ t, (factS tab t).holds (a.tmps[t]?.getD undef) w') → Q .normal a w') :
    (Code.region id l.toArray true).wp P Q a0 w := by
  refine wp_region_factsSk hm gd grew (fun t => (factS tab t).holds) a0.tmps.size grew.refl (fun _ _ _ => grew.trans) (fun t v x y h => FactS.mono h _ v) rfl hfed (fun t ht => ?_) hstep hfin
  rcases Nat.lt_or_ge t tab.length with hlt | hge
  · unfold coveredS at hcov
    rw [List.all_eq_true] at hcov
    have h1 := hcov t (List.mem_range.2 hlt)
    rw [ht] at h1
    simp only [Bool.or_false, Bool.or_eq_true, List.contains_iff_mem] at h1
    rcases h1 with h1 | h1
    · generalize factS tab t = f at h1
      cases f with
      | f x => cases x <;> first | trivial | cases h1
      | ptr u => cases h1
    · exact OutsS.at h0 t h1
  · have : factS tab t = .f .any := by simp [factS, List.getElem?_eq_none hge]
    rw [this]; trivial
theorem arr_nums {w : World} {k k0 : Int} {sa na ia : Option Addr} {ls sc ln nc li ic : Nat} {sh nu : List Int} {it : List Arr} (h : ArrAt w (.agg #[.int .i64 k, .slice sa ls sc, .slice na ln nc, .slice ia li ic]) (.mk k0 sh nu it)) : ln = nu.length ∧ IntsAt w na nc nu := by
  rw [ArrAt] at h
  obtain ⟨sa', sc', na', nc', ia', ic', hv, -, -, hn, -⟩ := h
  simp only [Value.agg.injEq, Array.mk.injEq, List.cons.injEq, Value.slice.injEq, and_true] at hv
  obtain ⟨-, -, ⟨rfl, rfl, rfl⟩, -⟩ := hv
  exact ⟨rfl, hn⟩
theorem arr_shape {w : World} {k k0 : Int} {sa na ia : Option Addr} {ls sc ln nc li ic : Nat} {sh nu : List Int} {it : List Arr} (h : ArrAt w (.agg #[.int .i64 k, .slice sa ls sc, .slice na ln nc, .slice ia li ic]) (.mk k0 sh nu it)) : ls = sh.length ∧ IntsAt w sa sc sh := by
  rw [ArrAt] at h
  obtain ⟨sa', sc', na', nc', ia', ic', hv, -, hs, -⟩ := h
  simp only [Value.agg.injEq, Array.mk.injEq, List.cons.injEq, Value.slice.injEq, and_true] at hv
  obtain ⟨-, ⟨rfl, rfl, rfl⟩, -⟩ := hv
  exact ⟨rfl, hs⟩
/-- A row of one number that a literal has laid. -/
theorem rowOne (w : World) (B : Nat) (y : Int) (hB : B ≤ w.heap.size) : (w.alloc (.cells #[.int .i64 y] 3)).ownsRow B 3 1 (.slice (some ⟨w.heap.size, 0, none⟩) 1 1) 1 [.int .i64 y] :=
  ⟨rfl, Or.inr ⟨w.heap.size, 1, _, rfl, hB, heap_alloc_new w _, Nat.le_refl _, by unfold maxLen; omega, rfl, by simp⟩⟩

theorem countL_num (v : Value) (A : Arr) (w : World) (h : ArrAt w v A) (h0 : A.items = []) : Calls Try.prog 40 #[v] w fun e w' => e = .returned (.int .i64 (A.nums.length : Int)) ∧ Below w.heap.size w w' := by
  obtain ⟨k, sh, nu, it⟩ := A
  have e : it = [] := h0
  subst e
  rw [ArrAt] at h
  obtain ⟨sa, sc, na, nc, ia, ic, rfl, hk, hs, hnn, h1, h2, b, off, ha, hc⟩ := h
  have hP1 := Par.new w (.int .i64 k) (.slice sa sh.length sc) (.slice na nu.length nc) (.slice ia 0 ic) 26
  have hl := hnn.len
  obtain ⟨p0, p1, p2, p3, p4⟩ := id hP1
  clear hs hnn hk
  show Calls Try.prog 40 #[.agg #[.int .i64 k, .slice sa sh.length sc, .slice na nu.length nc, .slice ia 0 ic]] w fun e w' => e = .returned (.int .i64 (nu.length : Int)) ∧ Below w.heap.size w w'
  go_enter Try.func40, Try.ntmps40
  go_wp2_with fail
  refine wp_loop_rounds 1 ?_
  rw [rounds_succ]
  go_wp2_with fail
  go_ret
  exact ⟨by first | rfl | simp, below_new _ _⟩
theorem fewLX (v : Value) (A : Arr) (most : Int) (w : World) (h : ArrAt w v A) : Calls Try.prog 15 #[v, .int .i64 most] w fun e w' => ∃ b : Bool, e = .returned (.bool b) ∧ Below w.heap.size w w' ∧ (b = true → A.items = [] → (A.nums.length : Int) ≤ most) := by
  by_cases h0 : A.items = []
  · have hA := h
    obtain ⟨k, sh, nu, it⟩ := A
    rw [ArrAt] at h
    obtain ⟨sa, sc, na, nc, ia, ic, rfl, -⟩ := h
    have hA1 := hA.below (below_new w (.cells #[.int .i64 k, .slice sa sh.length sc, .slice na nu.length nc, .slice ia it.length ic] 26))
    have hC := fun w' v' (g : ArrAt w' v' (.mk k sh nu it)) => countL_num v' _ w' g h0
    clear h0
    by_cases h20 : sh.length ≤ 20
    · go_enter Try.func15, Try.ntmps15
      go_wp2_with (go_at_call 40; refine (hC _ _ hA1).mono ?_; rintro e w2 ⟨rfl, hb2⟩)
      go_ret
      exact ⟨_, rfl, Below.then (below_new _ _) hb2, fun g _ => by simpa using g⟩
    · go_enter Try.func15, Try.ntmps15
      go_wp2_with fail
      go_ret
      exact .inl ⟨by first | rfl | simp, below_new _ _⟩
  · exact (fewL v A most w h).mono fun e w' ⟨b, h1, h2⟩ => ⟨b, h1, h2, fun _ g => absurd g h0⟩
end Go.Proofs.Ytblgpnijiefopaa.Shape

namespace Go.Proofs.Ytblgpnijiefopaa.Shape
open Go.RowKit Go.Proofs.Ytblgpnijiefopaa.Draw

theorem StepSk.frame {P : Program} {gd : Nat → Nat} {le : World → World → Prop} {F : Nat → Value → World → Prop} {w0 : World} {o : Oper} {C : Nat → Value → Prop} (hd : ∀ v, C (o.dst.getD 0) v) (h : StepSk P gd le F w0 o) :
    StepSk P gd le (fun t v w => F t v w ∧ C t v) w0 o := fun a w h1 h2 => by
  rcases h a w h1 (fun t ht => (h2 t ht).1) with ⟨hg, hrun⟩ | ⟨hg, hv⟩
  · exact .inl ⟨hg, fun K Q hK => hrun K Q fun v w' hle hv => hK v w' hle ⟨hv, hd v⟩⟩
  · exact .inr ⟨hg, hv, hd _⟩
theorem AllSteps.imp {p q : Oper → Prop} : ∀ {l : List Oper}, (∀ o ∈ l, p o → q o) → AllSteps p l → AllSteps q l
  | [], _, _ => trivial
  | _ :: _, h, hs => ⟨h _ (by simp) hs.1, AllSteps.imp (fun o ho => h o (by simp [ho])) hs.2⟩
theorem rows_mid (tm : Array Value) (L : List Value) (lo n : Nat) (hsz : tm.size = L.length) (hn : lo + n ≤ L.length) (hf : ∀ t, t < lo ∨ lo + n ≤ t → tm[t]?.getD undef = L[t]?.getD undef) :
    tm = (L.take lo ++ (List.range' lo n).map (fun t => tm[t]?.getD undef) ++ L.drop (lo + n)).toArray := by
  refine Array.ext (by simp [hsz]; omega) fun i h1 h2 => ?_
  have e : tm[i] = tm[i]?.getD undef := by simp [h1]
  have hL : i < L.length := by omega
  rw [e]
  simp only [List.getElem_toArray]
  rcases Nat.lt_or_ge i lo with hi | hi
  · rw [List.getElem_append_left (by simp; omega), List.getElem_append_left (by simp; omega), List.getElem_take, hf i (Or.inl hi)]
    simp [hL]
  · rcases Nat.lt_or_ge i (lo + n) with hi2 | hi2
    · rw [List.getElem_append_left (by simp; omega), List.getElem_append_right (by simp; omega)]
      simp only [List.getElem_map, List.getElem_range', List.length_take]
      rw [show lo + 1 * (i - min lo L.length) = i by omega]
    · rw [List.getElem_append_right (by simp; omega), hf i (Or.inr hi2)]
      simp only [List.getElem_drop, List.length_append, List.length_take, List.length_map, List.length_range']
      rw [List.getElem?_eq_getElem hL]
      simp only [Option.getD_some]
      congr 1
      omega
/-- The test: the region writes temporaries from lo on, n of them, alone. -/
def within (l : List Oper) (lo n : Nat) : Bool := l.all fun o => match o.dst with | some d => decide (lo ≤ d) && decide (d < lo + n) | none => false
theorem wp_region_tabF {P : Program} {l : List Oper} {Q : Exit → Act → World → Prop} {id : Nat} {L : List Value} {ds : List Deferred} {w : World} (hm : P.follows .mixedOrders = true)
    (gd : Nat → Nat) (tab : List FactS) (outs : List Nat) (lo n : Nat) (hfed : fed gd L.length l.toArray = true) (hcov : coveredS tab l outs = true) (hin : within l lo n = true) (hn : lo + n ≤ L.length)
    (h0 : OutsS tab ⟨L.toArray, ds⟩ w.drew outs)
    (hstep : AllSteps (StepSk P gd grew (fun t => (factS tab t).holds) w.drew) l)
    (hfin : ∀ (g : Nat → Value) w', grew w.drew w' → (∀ t, lo ≤ t → t < lo + n → (factS tab t).holds (g t) w') → Q .normal ⟨(L.take lo ++ (List.range' lo n).map g ++ L.drop (lo + n)).toArray, ds⟩ w') :
    (Code.region id l.toArray true).wp P Q ⟨L.toArray, ds⟩ w := by
  have hd : ∀ o ∈ l, ∃ d, o.dst = some d ∧ lo ≤ d ∧ d < lo + n := fun o ho => by
    unfold within at hin
    rw [List.all_eq_true] at hin
    have h1 := hin o ho
    cases hx : o.dst with
    | none => rw [hx] at h1; cases h1
    | some d => rw [hx] at h1; simp only [Bool.and_eq_true, decide_eq_true_eq] at h1; exact ⟨d, rfl, h1.1, h1.2⟩
  refine wp_region_factsSk hm gd grew (fun t v w => (factS tab t).holds v w ∧ ((t < lo ∨ lo + n ≤ t) → v = L[t]?.getD undef)) L.length grew.refl (fun _ _ _ => grew.trans) (fun t v x y h g => ⟨FactS.mono h _ v g.1, g.2⟩) (by simp) hfed (fun t ht => ⟨?_, fun _ => by simp⟩) ?_ ?_
  · rcases Nat.lt_or_ge t tab.length with hlt | hge
    · unfold coveredS at hcov
      rw [List.all_eq_true] at hcov
      have h1 := hcov t (List.mem_range.2 hlt)
      rw [ht] at h1
      simp only [Bool.or_false, Bool.or_eq_true, List.contains_iff_mem] at h1
      rcases h1 with h1 | h1
      · generalize factS tab t = f at h1
        cases f with
        | f x => cases x <;> first | trivial | cases h1
        | ptr u => cases h1
      · exact OutsS.at h0 t h1
    · have : factS tab t = .f .any := by simp [factS, List.getElem?_eq_none hge]
      rw [this]; trivial
  · refine AllSteps.imp (fun o ho hs => StepSk.frame (C := fun t v => (t < lo ∨ lo + n ≤ t) → v = L[t]?.getD undef) (fun v => ?_) hs) hstep
    obtain ⟨d, h1, h2, h3⟩ := hd o ho
    rw [h1]
    intro h4
    simp only [Option.getD_some] at h4
    exact (h4.elim (Nat.not_lt.2 h2) (fun h5 => absurd h3 (Nat.not_lt.2 h5))).elim
  · rintro ⟨tm, ds'⟩ w' hsz hds hle H
    simp only at hds hsz
    subst hds
    have := rows_mid tm L lo n hsz hn fun t ht => (H t).2 ht
    rw [this]
    exact hfin (fun t => tm[t]?.getD undef) w' hle fun t _ _ => (H t).1
end Go.Proofs.Ytblgpnijiefopaa.Shape
