/-
  Layer 3: where an array lies: all the blocks that it reads are of a given kind (new ones, or ones other than a given one); and append onto a nil slice of ints.
-/
import Derived.Test.YtngcahaidlgkfaaDoorArr
import Derived.OwnWalk
import Derived.Deep.AppendLies
import Derived.Laws.OwnMore
import Derived.Maps.AppendAt
namespace Go.Proofs.YtngcahaidlgkfaaDoor.Shape
open Go.RowKit

/-- A slice of ints, each of whose blocks is of the kind P. -/
def IntsOn (P : Nat → Prop) (w : World) (a : Option Addr) (cap : Nat) (xs : List Int) : Prop :=
  IntsAt w a cap xs ∧ (xs ≠ [] → ∀ ad, a = some ad → P ad.block)
theorem IntsOn.keep {P R : Nat → Prop} {w w' : World} (hk : ∀ g, P g → g < w.heap.size → R g ∧ ∀ o, w'.cell? ⟨g, o, none⟩ = w.cell? ⟨g, o, none⟩) {a : Option Addr} {cap : Nat} {xs : List Int} (h : IntsOn P w a cap xs) : IntsOn R w' a cap xs := by
  obtain ⟨⟨h1, h2, h3, b, off, ha, hc⟩, hp⟩ := h
  by_cases hn : xs = []
  · exact ⟨⟨h1, h2, h3, b, off, ha, fun i hi => by subst hn; simp at hi⟩, fun g => absurd hn g⟩
  · have hb : P b := hp hn _ (ha hn)
    have hlen : 0 < xs.length := List.length_pos_iff.2 hn
    have := hk b hb (cell_lt (hc 0 hlen))
    refine ⟨⟨h1, h2, h3, b, off, ha, fun i hi => (this.2 _).trans (hc i hi)⟩, fun _ ad e => ?_⟩
    rw [ha hn] at e
    cases e
    exact this.1

mutual
/-- ArrAt, and each block that is read is of the kind P. -/
def ArrOn (P : Nat → Prop) (w : World) (v : Value) : Arr → Prop
  | .mk k sh nu it => ∃ sa sc na nc ia ic, v = .agg #[.int .i64 k, .slice sa (List.length sh) sc, .slice na (List.length nu) nc, .slice ia (List.length it) ic] ∧ (-9223372036854775808 ≤ k ∧ k ≤ 9223372036854775807) ∧
      IntsOn P w sa sc sh ∧ IntsOn P w na nc nu ∧ it.length ≤ ic ∧ ic ≤ 9223372036854775807 ∧ ∃ b off : Nat, (it ≠ [] → ia = some ⟨b, off, none⟩ ∧ P b) ∧ ArrsOn P w b off it
def ArrsOn (P : Nat → Prop) (w : World) (b off : Nat) : List Arr → Prop
  | [] => True
  | A :: r => (∃ c0 c1 c2 c3 : Value, (w.cell? ⟨b, off, none⟩ = some c0 ∧ w.cell? ⟨b, off + 1, none⟩ = some c1 ∧ w.cell? ⟨b, off + 2, none⟩ = some c2 ∧ w.cell? ⟨b, off + 3, none⟩ = some c3) ∧ ArrOn P w (.agg #[c0, c1, c2, c3]) A) ∧ ArrsOn P w b (off + 4) r
end
mutual
theorem ArrOn.at {P : Nat → Prop} {w : World} : ∀ {v : Value} {A : Arr}, ArrOn P w v A → ArrAt w v A
  | _, .mk k sh nu it, h => by
    rw [ArrOn] at h
    rw [ArrAt]
    obtain ⟨sa, sc, na, nc, ia, ic, hv, hk, hs, hn, h1, h2, b, off, ha, hc⟩ := h
    exact ⟨sa, sc, na, nc, ia, ic, hv, hk, hs.1, hn.1, h1, h2, b, off, fun g => (ha g).1, ArrsOn.at hc⟩
theorem ArrsOn.at {P : Nat → Prop} {w : World} : ∀ {b off : Nat} {l : List Arr}, ArrsOn P w b off l → ArrsAt w b off l
  | _, _, [], _ => by rw [ArrsAt]; trivial
  | b, off, A :: r, h => by
    rw [ArrsOn] at h
    rw [ArrsAt]
    obtain ⟨⟨c0, c1, c2, c3, hc, hA⟩, hr⟩ := h
    exact ⟨⟨c0, c1, c2, c3, hc, ArrOn.at hA⟩, ArrsOn.at hr⟩
end
mutual
theorem ArrOn.keep {P R : Nat → Prop} {w w' : World} (hk : ∀ g, P g → g < w.heap.size → R g ∧ ∀ o, w'.cell? ⟨g, o, none⟩ = w.cell? ⟨g, o, none⟩) : ∀ {v : Value} {A : Arr}, ArrOn P w v A → ArrOn R w' v A
  | _, .mk k sh nu it, h => by
    rw [ArrOn] at h ⊢
    obtain ⟨sa, sc, na, nc, ia, ic, hv, hk', hs, hn, h1, h2, b, off, ha, hc⟩ := h
    cases it with
    | nil => exact ⟨sa, sc, na, nc, ia, ic, hv, hk', hs.keep hk, hn.keep hk, h1, h2, b, off, fun g => absurd rfl g, by rw [ArrsOn]; trivial⟩
    | cons A r =>
      have hb := (ha (by simp)).2
      refine ⟨sa, sc, na, nc, ia, ic, hv, hk', hs.keep hk, hn.keep hk, h1, h2, b, off, fun g => ⟨(ha g).1, ?_⟩, ArrsOn.keep hk hb hc⟩
      rw [ArrsOn] at hc
      obtain ⟨⟨c0, _, _, _, ⟨e, -⟩, -⟩, -⟩ := hc
      exact (hk b hb (cell_lt e)).1
theorem ArrsOn.keep {P R : Nat → Prop} {w w' : World} (hk : ∀ g, P g → g < w.heap.size → R g ∧ ∀ o, w'.cell? ⟨g, o, none⟩ = w.cell? ⟨g, o, none⟩) : ∀ {b off : Nat}, P b → ∀ {l : List Arr}, ArrsOn P w b off l → ArrsOn R w' b off l
  | _, _, _, [], _ => by rw [ArrsOn]; trivial
  | b, off, hb, A :: r, h => by
    rw [ArrsOn] at h ⊢
    obtain ⟨⟨c0, c1, c2, c3, ⟨h0, h1, h2, h3⟩, hA⟩, hr⟩ := h
    have e := (hk b hb (cell_lt h0)).2
    exact ⟨⟨c0, c1, c2, c3, ⟨(e _).trans h0, (e _).trans h1, (e _).trans h2, (e _).trans h3⟩, ArrOn.keep hk hA⟩, ArrsOn.keep hk hb hr⟩
end
/-- What lies in new blocks lies there still when only old memory is kept and the new is not touched. -/
theorem ArrOn.below {P : Nat → Prop} {w w' : World} (hb : Below w.heap.size w w') {v : Value} {A : Arr} (h : ArrOn P w v A) : ArrOn (fun g => P g ∧ g < w.heap.size) w' v A :=
  h.keep fun _ hp hg => ⟨⟨hp, hg⟩, fun _ => hb.cell hg⟩
theorem IntsOn.below {P : Nat → Prop} {w w' : World} (hb : Below w.heap.size w w') {a : Option Addr} {cap : Nat} {xs : List Int} (h : IntsOn P w a cap xs) : IntsOn (fun g => P g ∧ g < w.heap.size) w' a cap xs :=
  h.keep fun _ hp hg => ⟨⟨hp, hg⟩, fun _ => hb.cell hg⟩
theorem IntsOn.mono {P R : Nat → Prop} {w : World} {a : Option Addr} {cap : Nat} {xs : List Int} (h : IntsOn P w a cap xs) (hm : ∀ g, P g → R g) : IntsOn R w a cap xs :=
  h.keep fun g hp _ => ⟨hm g hp, fun _ => rfl⟩
theorem ArrOn.mono {P R : Nat → Prop} {w : World} {v : Value} {A : Arr} (h : ArrOn P w v A) (hm : ∀ g, P g → R g) : ArrOn R w v A :=
  h.keep fun g hp _ => ⟨hm g hp, fun _ => rfl⟩

/-! ### append([]int(nil), xs...) -/
theorem infoInt : (Tryd.prog.info? 3).map (fun i => (i.zero, i.size, i.bytes)) = some (some (.int .i64 0), 1, 8) := by kernel_rfl
/-- Ints that the call itself has gathered. -/
theorem ints_of_own {w : World} {base e : Nat} {v : Value} {xs : List Int} {n : Nat} (hn : n = xs.length) (h : w.ownsRow base e 1 v n (xs.map (Value.int .i64))) (hb : ∀ x ∈ xs, -9223372036854775808 ≤ x ∧ x ≤ 9223372036854775807) :
    ∃ a c, v = .slice a xs.length c ∧ IntsOn (fun g => base ≤ g) w a c xs := by
  subst hn
  have h' := h
  rcases h'.2 with ⟨rfl, h0⟩ | ⟨g, cap, cur, rfl, hg, hh, hnc, hcm, hcs, htake⟩
  · have hx : xs = [] := List.eq_nil_of_length_eq_zero h0
    subst hx
    exact ⟨none, 0, rfl, ⟨Nat.zero_le _, by decide, fun x hx => absurd hx (by simp), 0, 0, fun hn => absurd rfl hn, fun i hi => absurd hi (by simp)⟩, fun g => absurd rfl g⟩
  · refine ⟨some ⟨g, 0, none⟩, cap, rfl, ⟨hnc, by unfold maxLen at hcm; omega, hb, g, 0, fun _ => rfl, fun i hi => ?_⟩, fun _ ad e => by cases e; exact hg⟩
    rw [Nat.zero_add, h.cellAt i (by omega)]
    simp [hi]
theorem run_append_ints {w : World} {a : Option Addr} {cap : Nat} {xs : List Int} (ty : TypeId) (h : IntsAt w a cap xs) (hr : xs.length * 8 ≤ 140737488351232) :
    ∃ a' c' w', (Builtin.append_ #[23, 23] ty #[.slice none 0 0, .slice a xs.length cap]).run Tryd.prog w = .ok (.slice a' xs.length c') w' ∧ IntsOn (fun g => w.heap.size ≤ g) w' a' c' xs ∧ Below w.heap.size w w' := by
  obtain ⟨i0, hi, hz0, hz1, hz2⟩ := info_parts infoInt
  have h0 := h
  obtain ⟨h1, h2, h3, b, off, ha, hc⟩ := h
  have go : ∀ ad : Addr, a = some ad → (∀ j u, (xs.map (Value.int .i64))[j]? = some u → w.cell? (ad.add j) = some u) →
      ∃ a' c' w', (Builtin.append_ #[23, 23] ty #[.slice none 0 0, .slice a xs.length cap]).run Tryd.prog w = .ok (.slice a' xs.length c') w' ∧ IntsOn (fun g => w.heap.size ≤ g) w' a' c' xs ∧ Below w.heap.size w w' := by
    intro ad hA hcell
    subst hA
    obtain ⟨v', w', hrun, hown, hgrow, _⟩ := run_append_own (P := Tryd.prog) w w.heap.size 23 ty 3 i0 (.int .i64 0) 1 8 Tryd.underlying23 hi hz0 hz1 hz2 rfl (by decide) (.slice none 0 0) 0 [] (World.ownsRow_nil _ _ _ _)
      ad xs.length cap (xs.map (Value.int .i64)) (by simp) hcell (by intro u hu; obtain ⟨x, _, rfl⟩ := List.mem_map.1 hu; rfl) (by unfold maxLen; omega) (by omega) (Nat.le_refl _)
    simp only [Nat.zero_add, List.nil_append] at hown
    obtain ⟨a', c', rfl, hon⟩ := ints_of_own rfl hown h3
    exact ⟨a', c', w', hrun, hon, (Below.refl _ _).grown hgrow (Nat.le_refl _) (fun k hk => by simp [Value.ownBlock] at hk)⟩
  cases xs with
  | nil =>
    cases a with
    | none => exact ⟨none, 0, w, by simp [Builtin.append_, run_underlying Tryd.underlying23, sizeOf, typeInfo, hi, Builtin.lenOf, Builtin.firstCells], ⟨⟨Nat.zero_le _, by decide, fun x hx => absurd hx (by simp), 0, 0, fun hn => absurd rfl hn, fun i hi => absurd hi (by simp)⟩, fun g => absurd rfl g⟩, Below.refl _ _⟩
    | some ad => exact go ad rfl (by simp)
  | cons x r =>
    have e := ha (by simp)
    refine go _ e fun j u hj => ?_
    rw [add_plain]
    have hjl : j < (x :: r).length := by
      have := (List.getElem?_eq_some_iff.1 hj).1
      simpa using this
    rw [hc j hjl]
    rw [← hj, List.getElem?_map, List.getElem?_eq_getElem hjl]
    rfl
/-- The same as a step of a region that draws its order. -/
theorem step_append_ints {ops : Array Oper} {o : Oper} {a : Act} {w : World} {K : Act → World → Prop} {Q : Exit → Act → World → Prop} {E : Prop} (hgd : o.guard = none) (s x : Operand)
    (ho : o.op = .call { callee := .builtin .append, args := #[s, x], argTypes := #[23, 23] }) (hs : a.eval s = .slice none 0 0)
    (ad : Option Addr) (n c : Nat) (xs : List Int) (hx : a.eval x = .slice ad n c) (hn : n = xs.length) (hi : IntsAt w ad c xs) (hr : xs.length * 8 ≤ 140737488351232)
    (h : ∀ a' c' w', IntsOn (fun g => w.heap.size ≤ g) w' a' c' xs → Below w.heap.size w w' → K (a.put o.dst (.slice a' n c')) w') :
    if Region.wanted o (yielded ops a.tmps) = true then Oper.wp Tryd.prog o a w K Q else E := by
  have hw : Region.wanted o (yielded ops a.tmps) = true := by simp [Region.wanted, hgd]
  rw [if_pos hw]
  subst hn
  obtain ⟨a', c', w', hrun, h1, h2⟩ := run_append_ints o.type hi hr
  unfold Oper.wp execOp
  simp only [ho, resolve, invoke, builtin, Sem.run_bind, Sem.run_pure, Result.andThen_ok, List.map_toArray, List.map_cons, List.map_nil, hs, hx, hrun]
  exact h a' c' w' h1 h2
end Go.Proofs.YtngcahaidlgkfaaDoor.Shape
