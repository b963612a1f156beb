/-
  Layer 11: a family of scopes; the program's Find.
-/
import Derived.Test.YtmbljiapfbadeaaNamP3
import Derived.Deep.LoopGhost
namespace Go.Proofs.Ytmbljiapfbadeaa.Nam
open Go.RowKit Go.Maps
set_option linter.unusedVariables false

/-- A scope as plain data: the number of its outer scope, how many enclose it, its definitions. -/
structure Scp where
  out : Option Nat
  dep : Nat
  ds : List Def
/-- Each scope's outer scope is an earlier one. -/
def Wf (L : List Scp) : Prop := ∀ i (h : i < L.length), match L[i].out with
  | none => L[i].dep = 0
  | some j => ∃ hj : j < i, L[i].dep = L[j].dep + 1
structure PFam (w : World) (L : List Scp) (pb mb : Nat → Nat) : Prop where
  sc : ∀ i (h : i < L.length), PSc w (pb i) (mb i) (L[i].out.map pb) L[i].dep L[i].ds
  inj : ∀ i j, i < L.length → j < L.length → mb i = mb j → i = j
theorem PFam.below {w w' : World} {L : List Scp} {pb mb : Nat → Nat} (h : PFam w L pb mb) (hb : Below w.heap.size w w') : PFam w' L pb mb := ⟨fun i hi => (h.sc i hi).below hb, h.inj⟩
/-- What Find answers. -/
def findS (L : List Scp) : Nat → Option Nat → ByteArray → Int × Bool
  | 0, _, _ => (0, false)
  | _ + 1, none, _ => (0, false)
  | f + 1, some i, s => match L[i]? with
    | none => (0, false)
    | some x => match pos x.ds s with
      | some j => ((x.ds.getD j (⟨#[]⟩, 0)).2, true)
      | none => findS L f x.out s
theorem find_none (L : List Scp) (s : ByteArray) : ∀ f, findS L f none s = (0, false)
  | 0 => rfl
  | _ + 1 => rfl
theorem find_hit {L : List Scp} {f i p : Nat} {s : ByteArray} (hi : i < L.length) (h : pos L[i].ds s = some p) : findS L (f + 1) (some i) s = ((L[i].ds.getD p (⟨#[]⟩, 0)).2, true) := by
  rw [findS, List.getElem?_eq_getElem hi]
  simp only [h]
theorem find_on {L : List Scp} {f i : Nat} {s : ByteArray} (hi : i < L.length) (h : pos L[i].ds s = none) : findS L (f + 1) (some i) s = findS L f L[i].out s := by
  rw [findS, List.getElem?_eq_getElem hi]
  simp only [h]
theorem ptr_none : ptr none = .pointer none := rfl
theorem ptr_some (b : Nat) : ptr (some b) = .pointer (some ⟨b, 0, none⟩) := rfl
section
variable (w : World) {ops : Array Oper} {rest : List Oper} {o : Oper} {a : Act} {Q : Exit → Act → World → Prop}
/-- The look-up of a name that is there, of one that is not. -/
theorem look_hit (hg : o.guard = none) (m x : Operand) (hop : o.op = Op.lookup 44 m x true) (b n : Nat) (ds : List Def) (hu : Uniq ds)
    (hm : a.eval m = .map (some b)) (hown : w.ownsMap Try.prog 9 defR b n (dat ds)) (s : ByteArray) (hs : s.size ≤ maxLen) (hx : a.eval x = .string s) (p : Nat) (hp : pos ds s = some p) (c : Int) (hc : (ds.getD p (⟨#[]⟩, 0)).2 = c)
    (hK : wpList Try.prog ops Q rest (a.put o.dst (.tuple #[.agg #[.int .i64 c, .int .i64 (p : Int)], .bool true])) w) : wpList Try.prog ops Q (o :: rest) a w := by
  refine wpList_lookup_own_ok _ hg _ _ _ hop 9 53 keyLaw Try.underlying44 defR (zeroDef _) (dE 0 0) [] (defR_mk 0 0) b n _ hm hown _ (kl s) hx (key_kl hs) ?_
  intro v ps hv
  obtain ⟨x, rfl, hx⟩ := look_shape hv
  rw [at_pos hu hp, hc] at hx
  obtain ⟨e1, e2⟩ := dE_inj hx
  rw [has_pos, hp, ← e1, ← e2]
  exact hK
theorem look_miss (hg : o.guard = none) (m x : Operand) (hop : o.op = Op.lookup 44 m x true) (b n : Nat) (ds : List Def)
    (hm : a.eval m = .map (some b)) (hown : w.ownsMap Try.prog 9 defR b n (dat ds)) (s : ByteArray) (hs : s.size ≤ maxLen) (hx : a.eval x = .string s) (hp : pos ds s = none)
    (hK : ∀ c p : Int, wpList Try.prog ops Q rest (a.put o.dst (.tuple #[.agg #[.int .i64 c, .int .i64 p], .bool false])) w) : wpList Try.prog ops Q (o :: rest) a w := by
  refine wpList_lookup_own_ok _ hg _ _ _ hop 9 53 keyLaw Try.underlying44 defR (zeroDef _) (dE 0 0) [] (defR_mk 0 0) b n _ hm hown _ (kl s) hx (key_kl hs) ?_
  intro v ps hv
  obtain ⟨x, rfl, hx⟩ := look_shape hv
  rw [has_pos, hp]
  exact hK _ _
end
set_option maxRecDepth 100000 in
set_option maxHeartbeats 4000000 in
theorem find0 (w : World) (L : List Scp) (pb mb : Nat → Nat) (hF : PFam w L pb mb) (hW : Wf L) (i : Nat) (hi : i < L.length) (s : ByteArray) (hs : s.size ≤ maxLen) (c : Int) (r : Bool) (hr : findS L (i + 1) (some i) s = (c, r)) :
    Calls Try.prog 13 #[.pointer (some ⟨pb i, 0, none⟩), .string s] w fun e w' => e = .returned (.tuple #[.int .i64 c, .bool r]) ∧ Below w.heap.size w w' := by
  have A : Aside (findS L (i + 1) (some i) s = (c, r)) := hr
  clear hr
  go_enter Try.func13, Try.ntmps13
  go_wp2
  go_loopg [0] (i + 1) (fun k v wr => ∃ cur : Option Nat, v = ptr (cur.map pb) ∧ Aside (findS L k cur s = (c, r)) ∧ (∀ j, cur = some j → j < k ∧ j < L.length) ∧ Below w.heap.size w wr)
  case atStart => exact ⟨some i, rfl, A, fun j e => by cases e; exact ⟨by omega, hi⟩, Below.refl _ _⟩
  case round =>
    clear A
    obtain ⟨cur, rfl, A, hj, Bw⟩ := hrel
    have hfr : findS L gk cur s = (c, r) := A
    clear A
    cases cur with
    | none =>
      rw [find_none] at hfr
      obtain ⟨rfl, rfl⟩ : (0 : Int) = c ∧ false = r := by simpa using hfr
      simp only [Option.map_none, ptr_none]
      clear hfr hj
      go_wp2
      go_ret2
      exact ⟨rfl, Bw⟩
    | some j =>
      obtain ⟨hjk, hjl⟩ := hj j rfl
      obtain ⟨k, rfl⟩ : ∃ k, gk = k + 1 := ⟨gk - 1, by omega⟩
      have hP := (hF.below Bw).sc j hjl
      have hwf := hW j hjl
      obtain ⟨c0, c1, c2, ff⟩ := hP.cells
      simp only [Option.map_some, ptr_some]
      cases hp : pos L[j].ds s with
      | some p =>
        rw [find_hit hjl hp] at hfr
        obtain ⟨hc, rfl⟩ : (L[j].ds.getD p (⟨#[]⟩, 0)).2 = c ∧ true = r := by simpa using hfr
        have hc' : Aside ((L[j].ds.getD p (⟨#[]⟩, 0)).2 = c) := hc
        have hp' : Aside (pos L[j].ds s = some p) := hp
        have hPm := hP.map
        have hPu := hP.uniq
        clear hj hp hwf hfr hc hP
        go_wp2_with (at_lookup; refine look_hit _ rfl _ _ rfl (mb j) _ _ hPu rfl hPm s hs rfl p hp' c hc' ?_)
        go_ret2
        exact ⟨rfl, Below.then Bw (below_new _ _)⟩
      | none =>
        rw [find_on hjl hp] at hfr
        have hfr' : Aside (findS L k L[j].out s = (c, r)) := hfr
        have hp' : Aside (pos L[j].ds s = none) := hp
        have hPm := hP.map
        have ho : Aside (∀ q, L[j].out = some q → q < k ∧ q < L.length) := fun q e => by
          rw [e] at hwf
          obtain ⟨h1, _⟩ := hwf
          omega
        have hjb := hP.lt
        clear hj hp hwf hfr hP hF
        generalize L[j].out = oo at *
        cases oo with
        | none =>
          simp only [Option.map_none, ptr_none] at c0
          have d0 := fun o => ((below_new wr o).cell (p := ⟨pb j, 0, none⟩) hjb).trans c0
          go_wp2_with (at_lookup; refine look_miss _ rfl _ _ rfl (mb j) _ _ rfl hPm s hs rfl hp' ?_; intro c9 p9)
          go_roundg k
          case measure => omega
          case rel => exact ⟨none, rfl, hfr', (fun q e => by cases e), Below.then Bw (below_new _ _)⟩
        | some q =>
          simp only [Option.map_some, ptr_some] at c0
          have d0 := fun o => ((below_new wr o).cell (p := ⟨pb j, 0, none⟩) hjb).trans c0
          go_wp2_with (at_lookup; refine look_miss _ rfl _ _ rfl (mb j) _ _ rfl hPm s hs rfl hp' ?_; intro c9 p9)
          go_roundg k
          case measure => omega
          case rel => exact ⟨some q, rfl, hfr', (fun q' e => by cases e; exact ho q rfl), Below.then Bw (below_new _ _)⟩
theorem findP (w : World) (L : List Scp) (pb mb : Nat → Nat) (hF : PFam w L pb mb) (hW : Wf L) (i : Nat) (hi : i < L.length) (s : ByteArray) (hs : s.size ≤ maxLen) :
    Calls Try.prog 13 #[.pointer (some ⟨pb i, 0, none⟩), .string s] w fun e w' => e = .returned (.tuple #[.int .i64 (findS L (i + 1) (some i) s).1, .bool (findS L (i + 1) (some i) s).2]) ∧ Below w.heap.size w w' :=
  find0 w L pb mb hF hW i hi s hs _ _ rfl
set_option maxRecDepth 100000 in
set_option maxHeartbeats 2000000 in
theorem findN (w : World) (s : ByteArray) : Calls Try.prog 13 #[.pointer none, .string s] w fun e w' => e = .returned (.tuple #[.int .i64 0, .bool false]) ∧ Below w.heap.size w w' := by
  go_enter Try.func13, Try.ntmps13
  go_wp2
  go_loopg [0] 1 (fun k v wr => v = .pointer none ∧ wr = w)
  case atStart => exact ⟨rfl, rfl⟩
  case round =>
    obtain ⟨rfl, rfl⟩ := hrel
    go_wp2
    go_ret2
    exact ⟨rfl, Below.refl _ _⟩
end Go.Proofs.Ytmbljiapfbadeaa.Nam
