/-
  Layer 3: where an array lies: all the blocks that it reads are of a given kind (new ones, or ones other than a given one); and append onto a nil slice of ints.
  Layer 3: what Clone keeps while it gathers the copies of the items.
-/
import Derived.Test.YtekbdiniibmhgaaBinGI
import Derived.OwnWalk
import Derived.Deep.AppendLies
import Derived.Laws.OwnMore
import Derived.Maps.AppendAt
namespace Go.Proofs.Ytekbdiniibmhgaa.Shape
open Go.RowKit

/-- A slice of ints, each of whose blocks is of the kind P. -/
def IntsOn (P : Nat → Prop) (w : World) (a : Option Addr) (cap : Nat) (xs : List Int) : Prop :=
  IntsAt w a cap xs ∧ (xs ≠ [] → ∀ ad, a = some ad → P ad.block)
theorem IntsOn.keep {P R : Nat → Prop} {w w' : World} (hk : ∀ g, P g → g < w.heap.size → R g ∧ ∀ o, w'.cell? ⟨g, o, none⟩ = w.cell? ⟨g, o, none⟩) {a : Option Addr} {cap : Nat} {xs : List Int} (h : IntsOn P w a cap xs) : IntsOn R w' a cap xs := by
  obtain ⟨⟨h1, h2, h3, b, off, ha, hc⟩, hp⟩ := h
  by_cases hn : xs = []
  · exact ⟨⟨h1, h2, h3, b, off, ha, fun i hi => by subst hn; simp at hi⟩, fun g => absurd hn g⟩
  · have hb : P b := hp hn _ (ha hn)
    have hlen : 0 < xs.length := List.length_pos_iff.2 hn
    have := hk b hb (cell_lt (hc 0 hlen))
    refine ⟨⟨h1, h2, h3, b, off, ha, fun i hi => (this.2 _).trans (hc i hi)⟩, fun _ ad e => ?_⟩
    rw [ha hn] at e
    cases e
    exact this.1

mutual
/-- ArrAt, and each block that is read is of the kind P. -/
def ArrOn (P : Nat → Prop) (w : World) (v : Value) : Arr → Prop
  | .mk k sh nu it => ∃ sa sc na nc ia ic, v = .agg #[.int .i64 k, .slice sa (List.length sh) sc, .slice na (List.length nu) nc, .slice ia (List.length it) ic] ∧ (-9223372036854775808 ≤ k ∧ k ≤ 9223372036854775807) ∧
      IntsOn P w sa sc sh ∧ IntsOn P w na nc nu ∧ it.length ≤ ic ∧ ic ≤ 9223372036854775807 ∧ ∃ b off : Nat, (it ≠ [] → ia = some ⟨b, off, none⟩ ∧ P b) ∧ ArrsOn P w b off it
def ArrsOn (P : Nat → Prop) (w : World) (b off : Nat) : List Arr → Prop
  | [] => True
  | A :: r => (∃ c0 c1 c2 c3 : Value, (w.cell? ⟨b, off, none⟩ = some c0 ∧ w.cell? ⟨b, off + 1, none⟩ = some c1 ∧ w.cell? ⟨b, off + 2, none⟩ = some c2 ∧ w.cell? ⟨b, off + 3, none⟩ = some c3) ∧ ArrOn P w (.agg #[c0, c1, c2, c3]) A) ∧ ArrsOn P w b (off + 4) r
end
mutual
theorem ArrOn.at {P : Nat → Prop} {w : World} : ∀ {v : Value} {A : Arr}, ArrOn P w v A → ArrAt w v A
  | _, .mk k sh nu it, h => by
    rw [ArrOn] at h
    rw [ArrAt]
    obtain ⟨sa, sc, na, nc, ia, ic, hv, hk, hs, hn, h1, h2, b, off, ha, hc⟩ := h
    exact ⟨sa, sc, na, nc, ia, ic, hv, hk, hs.1, hn.1, h1, h2, b, off, fun g => (ha g).1, ArrsOn.at hc⟩
theorem ArrsOn.at {P : Nat → Prop} {w : World} : ∀ {b off : Nat} {l : List Arr}, ArrsOn P w b off l → ArrsAt w b off l
  | _, _, [], _ => by rw [ArrsAt]; trivial
  | b, off, A :: r, h => by
    rw [ArrsOn] at h
    rw [ArrsAt]
    obtain ⟨⟨c0, c1, c2, c3, hc, hA⟩, hr⟩ := h
    exact ⟨⟨c0, c1, c2, c3, hc, ArrOn.at hA⟩, ArrsOn.at hr⟩
end
mutual
theorem ArrOn.keep {P R : Nat → Prop} {w w' : World} (hk : ∀ g, P g → g < w.heap.size → R g ∧ ∀ o, w'.cell? ⟨g, o, none⟩ = w.cell? ⟨g, o, none⟩) : ∀ {v : Value} {A : Arr}, ArrOn P w v A → ArrOn R w' v A
  | _, .mk k sh nu it, h => by
    rw [ArrOn] at h ⊢
    obtain ⟨sa, sc, na, nc, ia, ic, hv, hk', hs, hn, h1, h2, b, off, ha, hc⟩ := h
    cases it with
    | nil => exact ⟨sa, sc, na, nc, ia, ic, hv, hk', hs.keep hk, hn.keep hk, h1, h2, b, off, fun g => absurd rfl g, by rw [ArrsOn]; trivial⟩
    | cons A r =>
      have hb := (ha (by simp)).2
      refine ⟨sa, sc, na, nc, ia, ic, hv, hk', hs.keep hk, hn.keep hk, h1, h2, b, off, fun g => ⟨(ha g).1, ?_⟩, ArrsOn.keep hk hb hc⟩
      rw [ArrsOn] at hc
      obtain ⟨⟨c0, _, _, _, ⟨e, -⟩, -⟩, -⟩ := hc
      exact (hk b hb (cell_lt e)).1
theorem ArrsOn.keep {P R : Nat → Prop} {w w' : World} (hk : ∀ g, P g → g < w.heap.size → R g ∧ ∀ o, w'.cell? ⟨g, o, none⟩ = w.cell? ⟨g, o, none⟩) : ∀ {b off : Nat}, P b → ∀ {l : List Arr}, ArrsOn P w b off l → ArrsOn R w' b off l
  | _, _, _, [], _ => by rw [ArrsOn]; trivial
  | b, off, hb, A :: r, h => by
    rw [ArrsOn] at h ⊢
    obtain ⟨⟨c0, c1, c2, c3, ⟨h0, h1, h2, h3⟩, hA⟩, hr⟩ := h
    have e := (hk b hb (cell_lt h0)).2
    exact ⟨⟨c0, c1, c2, c3, ⟨(e _).trans h0, (e _).trans h1, (e _).trans h2, (e _).trans h3⟩, ArrOn.keep hk hA⟩, ArrsOn.keep hk hb hr⟩
end
/-- What lies in new blocks lies there still when only old memory is kept and the new is not touched. -/
theorem ArrOn.below {P : Nat → Prop} {w w' : World} (hb : Below w.heap.size w w') {v : Value} {A : Arr} (h : ArrOn P w v A) : ArrOn (fun g => P g ∧ g < w.heap.size) w' v A :=
  h.keep fun _ hp hg => ⟨⟨hp, hg⟩, fun _ => hb.cell hg⟩
theorem IntsOn.below {P : Nat → Prop} {w w' : World} (hb : Below w.heap.size w w') {a : Option Addr} {cap : Nat} {xs : List Int} (h : IntsOn P w a cap xs) : IntsOn (fun g => P g ∧ g < w.heap.size) w' a cap xs :=
  h.keep fun _ hp hg => ⟨⟨hp, hg⟩, fun _ => hb.cell hg⟩
theorem IntsOn.mono {P R : Nat → Prop} {w : World} {a : Option Addr} {cap : Nat} {xs : List Int} (h : IntsOn P w a cap xs) (hm : ∀ g, P g → R g) : IntsOn R w a cap xs :=
  h.keep fun g hp _ => ⟨hm g hp, fun _ => rfl⟩
theorem ArrOn.mono {P R : Nat → Prop} {w : World} {v : Value} {A : Arr} (h : ArrOn P w v A) (hm : ∀ g, P g → R g) : ArrOn R w v A :=
  h.keep fun g hp _ => ⟨hm g hp, fun _ => rfl⟩

/-! ### append([]int(nil), xs...) -/
theorem infoInt : (Try.prog.info? 3).map (fun i => (i.zero, i.size, i.bytes)) = some (some (.int .i64 0), 1, 8) := by kernel_rfl
/-- Ints that the call itself has gathered. -/
theorem ints_of_own {w : World} {base e : Nat} {v : Value} {xs : List Int} {n : Nat} (hn : n = xs.length) (h : w.ownsRow base e 1 v n (xs.map (Value.int .i64))) (hb : ∀ x ∈ xs, -9223372036854775808 ≤ x ∧ x ≤ 9223372036854775807) :
    ∃ a c, v = .slice a xs.length c ∧ IntsOn (fun g => base ≤ g) w a c xs := by
  subst hn
  have h' := h
  rcases h'.2 with ⟨rfl, h0⟩ | ⟨g, cap, cur, rfl, hg, hh, hnc, hcm, hcs, htake⟩
  · have hx : xs = [] := List.eq_nil_of_length_eq_zero h0
    subst hx
    exact ⟨none, 0, rfl, ⟨Nat.zero_le _, by decide, fun x hx => absurd hx (by simp), 0, 0, fun hn => absurd rfl hn, fun i hi => absurd hi (by simp)⟩, fun g => absurd rfl g⟩
  · refine ⟨some ⟨g, 0, none⟩, cap, rfl, ⟨hnc, by unfold maxLen at hcm; omega, hb, g, 0, fun _ => rfl, fun i hi => ?_⟩, fun _ ad e => by cases e; exact hg⟩
    rw [Nat.zero_add, h.cellAt i (by omega)]
    simp [hi]
theorem run_append_ints {w : World} {a : Option Addr} {cap : Nat} {xs : List Int} (ty : TypeId) (h : IntsAt w a cap xs) (hr : xs.length * 8 ≤ 140737488351232) :
    ∃ a' c' w', (Builtin.append_ #[30, 30] ty #[.slice none 0 0, .slice a xs.length cap]).run Try.prog w = .ok (.slice a' xs.length c') w' ∧ IntsOn (fun g => w.heap.size ≤ g) w' a' c' xs ∧ Below w.heap.size w w' := by
  obtain ⟨i0, hi, hz0, hz1, hz2⟩ := info_parts infoInt
  have h0 := h
  obtain ⟨h1, h2, h3, b, off, ha, hc⟩ := h
  have go : ∀ ad : Addr, a = some ad → (∀ j u, (xs.map (Value.int .i64))[j]? = some u → w.cell? (ad.add j) = some u) →
      ∃ a' c' w', (Builtin.append_ #[30, 30] ty #[.slice none 0 0, .slice a xs.length cap]).run Try.prog w = .ok (.slice a' xs.length c') w' ∧ IntsOn (fun g => w.heap.size ≤ g) w' a' c' xs ∧ Below w.heap.size w w' := by
    intro ad hA hcell
    subst hA
    obtain ⟨v', w', hrun, hown, hgrow, _⟩ := run_append_own (P := Try.prog) w w.heap.size 30 ty 3 i0 (.int .i64 0) 1 8 Try.underlying30 hi hz0 hz1 hz2 rfl (by decide) (.slice none 0 0) 0 [] (World.ownsRow_nil _ _ _ _)
      ad xs.length cap (xs.map (Value.int .i64)) (by simp) hcell (by intro u hu; obtain ⟨x, _, rfl⟩ := List.mem_map.1 hu; rfl) (by unfold maxLen; omega) (by omega) (Nat.le_refl _)
    simp only [Nat.zero_add, List.nil_append] at hown
    obtain ⟨a', c', rfl, hon⟩ := ints_of_own rfl hown h3
    exact ⟨a', c', w', hrun, hon, (Below.refl _ _).grown hgrow (Nat.le_refl _) (fun k hk => by simp [Value.ownBlock] at hk)⟩
  cases xs with
  | nil =>
    cases a with
    | none => exact ⟨none, 0, w, by simp [Builtin.append_, run_underlying Try.underlying30, sizeOf, typeInfo, hi, Builtin.lenOf, Builtin.firstCells], ⟨⟨Nat.zero_le _, by decide, fun x hx => absurd hx (by simp), 0, 0, fun hn => absurd rfl hn, fun i hi => absurd hi (by simp)⟩, fun g => absurd rfl g⟩, Below.refl _ _⟩
    | some ad => exact go ad rfl (by simp)
  | cons x r =>
    have e := ha (by simp)
    refine go _ e fun j u hj => ?_
    rw [add_plain]
    have hjl : j < (x :: r).length := by
      have := (List.getElem?_eq_some_iff.1 hj).1
      simpa using this
    rw [hc j hjl]
    rw [← hj, List.getElem?_map, List.getElem?_eq_getElem hjl]
    rfl
/-- The same as a step of a region that draws its order. -/
theorem step_append_ints {ops : Array Oper} {o : Oper} {a : Act} {w : World} {K : Act → World → Prop} {Q : Exit → Act → World → Prop} {E : Prop} (hgd : o.guard = none) (s x : Operand)
    (ho : o.op = .call { callee := .builtin .append, args := #[s, x], argTypes := #[30, 30] }) (hs : a.eval s = .slice none 0 0)
    (ad : Option Addr) (n c : Nat) (xs : List Int) (hx : a.eval x = .slice ad n c) (hn : n = xs.length) (hi : IntsAt w ad c xs) (hr : xs.length * 8 ≤ 140737488351232)
    (h : ∀ a' c' w', IntsOn (fun g => w.heap.size ≤ g) w' a' c' xs → Below w.heap.size w w' → K (a.put o.dst (.slice a' n c')) w') :
    if Region.wanted o (yielded ops a.tmps) = true then Oper.wp Try.prog o a w K Q else E := by
  have hw : Region.wanted o (yielded ops a.tmps) = true := by simp [Region.wanted, hgd]
  rw [if_pos hw]
  subst hn
  obtain ⟨a', c', w', hrun, h1, h2⟩ := run_append_ints o.type hi hr
  unfold Oper.wp execOp
  simp only [ho, resolve, invoke, builtin, Sem.run_bind, Sem.run_pure, Result.andThen_ok, List.map_toArray, List.map_cons, List.map_nil, hs, hx, hrun]
  exact h a' c' w' h1 h2
end Go.Proofs.Ytekbdiniibmhgaa.Shape

namespace Go.Proofs.Ytekbdiniibmhgaa.Shape
open Go.RowKit

/-- A block of four cells, of which none is frozen. -/
def Quad (w : World) (b : Nat) (c0 c1 c2 c3 : Value) : Prop := w.heap[b]? = some (.cells #[c0, c1, c2, c3] 33 (0, 0))
theorem Quad.cells {w : World} {b : Nat} {c0 c1 c2 c3 : Value} (h : Quad w b c0 c1 c2 c3) : w.cell? ⟨b, 0, none⟩ = some c0 ∧ w.cell? ⟨b, 1, none⟩ = some c1 ∧ w.cell? ⟨b, 2, none⟩ = some c2 ∧ w.cell? ⟨b, 3, none⟩ = some c3 ∧
    w.frozen? ⟨b, 0, none⟩ = false ∧ w.frozen? ⟨b, 1, none⟩ = false ∧ w.frozen? ⟨b, 2, none⟩ = false ∧ w.frozen? ⟨b, 3, none⟩ = false := by
  unfold Quad at h
  refine ⟨?_, ?_, ?_, ?_, ?_, ?_, ?_, ?_⟩ <;> simp [World.cell?, World.frozen?, h]
theorem Quad.lt {w : World} {b : Nat} {c0 c1 c2 c3 : Value} (h : Quad w b c0 c1 c2 c3) : b < w.heap.size := cell_lt h.cells.1
theorem Quad.below {w w' : World} {b : Nat} {c0 c1 c2 c3 : Value} (hb : Below w.heap.size w w') (h : Quad w b c0 c1 c2 c3) : Quad w' b c0 c1 c2 c3 := (hb.block b h.lt).trans h
theorem Quad.new (w : World) (c0 c1 c2 c3 : Value) : Quad (w.alloc (.cells #[c0, c1, c2, c3] 33)) w.heap.size c0 c1 c2 c3 := heap_alloc_new w _

theorem Quad.keep {w w' : World} {b : Nat} {c0 c1 c2 c3 : Value} (h : Quad w b c0 c1 c2 c3) (hk : w'.heap[b]? = w.heap[b]?) : Quad w' b c0 c1 c2 c3 := hk.trans h
theorem set_other (w : World) (bx o g : Nat) (u : Value) (h : g ≠ bx) : (w.setCell ⟨bx, o, none⟩ u).heap[g]? = w.heap[g]? := Below.heap_setCell _ _ _ _ h
theorem Quad.set {w : World} {b : Nat} {c0 c1 c2 c3 : Value} (h : Quad w b c0 c1 c2 c3) (u : Value) :
    Quad (w.setCell ⟨b, 0, none⟩ u) b u c1 c2 c3 ∧ Quad (w.setCell ⟨b, 1, none⟩ u) b c0 u c2 c3 ∧ Quad (w.setCell ⟨b, 2, none⟩ u) b c0 c1 u c3 ∧ Quad (w.setCell ⟨b, 3, none⟩ u) b c0 c1 c2 u := by
  have hlt := h.lt
  have h' : w.heap[b] = .cells #[c0, c1, c2, c3] 33 (0, 0) := by unfold Quad at h; simpa [Array.getElem?_eq_getElem hlt] using h
  refine ⟨?_, ?_, ?_, ?_⟩ <;>
  · show (w.heap.modify b _)[b]? = _
    rw [Array.getElem?_eq_getElem (by simpa using hlt), Array.getElem_modify_self, h']
    rfl

/-- A block that neither the literal nor the gathered row lies in. -/
def Free (w : World) (bx : Nat) (v : Value) (g : Nat) : Prop := w.heap.size + 2 ≤ g ∧ g ≠ bx ∧ v.ownBlock ≠ some g
/-- Cells, four by four, that hold arrays. -/
def Quads (P : Nat → Prop) (w : World) : List Value → List Arr → Prop
  | [], [] => True
  | c0 :: c1 :: c2 :: c3 :: qs, A :: r => ArrOn P w (.agg #[c0, c1, c2, c3]) A ∧ Quads P w qs r
  | _, _ => False
theorem Quads.keep {P R : Nat → Prop} {w w' : World} (hk : ∀ g, P g → g < w.heap.size → R g ∧ ∀ o, w'.cell? ⟨g, o, none⟩ = w.cell? ⟨g, o, none⟩) : ∀ {qs : List Value} {l : List Arr}, Quads P w qs l → Quads R w' qs l
  | [], [], _ => by rw [Quads]; trivial
  | c0 :: c1 :: c2 :: c3 :: qs, A :: r, h => by
    rw [Quads] at h ⊢
    exact ⟨h.1.keep hk, Quads.keep hk h.2⟩
  | [], _ :: _, h => by simp [Quads] at h
  | _ :: _, [], h => by simp [Quads] at h
  | [_], _ :: _, h => by simp [Quads] at h
  | [_, _], _ :: _, h => by simp [Quads] at h
  | [_, _, _], _ :: _, h => by simp [Quads] at h
theorem Quads.snoc {P : Nat → Prop} {w : World} {c0 c1 c2 c3 : Value} {A : Arr} (hA : ArrOn P w (.agg #[c0, c1, c2, c3]) A) : ∀ {qs : List Value} {l : List Arr}, Quads P w qs l → Quads P w (qs ++ [c0, c1, c2, c3]) (l ++ [A])
  | [], [], _ => by
    show Quads P w [c0, c1, c2, c3] [A]
    rw [Quads, Quads]
    exact ⟨hA, trivial⟩
  | d0 :: d1 :: d2 :: d3 :: qs, B :: r, h => by
    rw [Quads] at h
    show Quads P w (d0 :: d1 :: d2 :: d3 :: (qs ++ [c0, c1, c2, c3])) (B :: (r ++ [A]))
    rw [Quads]
    exact ⟨h.1, Quads.snoc hA h.2⟩
  | [], _ :: _, h => by simp [Quads] at h
  | _ :: _, [], h => by simp [Quads] at h
  | [_], _ :: _, h => by simp [Quads] at h
  | [_, _], _ :: _, h => by simp [Quads] at h
  | [_, _, _], _ :: _, h => by simp [Quads] at h
theorem Quads.arrs {P : Nat → Prop} {w : World} {b : Nat} : ∀ {qs : List Value} {l : List Arr} {off : Nat}, Quads P w qs l → (∀ i (h : i < qs.length), w.cell? ⟨b, off + i, none⟩ = some qs[i]) → ArrsOn P w b off l
  | [], [], _, _, _ => by rw [ArrsOn]; trivial
  | c0 :: c1 :: c2 :: c3 :: qs, A :: r, off, h, hc => by
    rw [Quads] at h
    rw [ArrsOn]
    refine ⟨⟨c0, c1, c2, c3, ⟨hc 0 (by simp), hc 1 (by simp), hc 2 (by simp), hc 3 (by simp)⟩, h.1⟩, Quads.arrs h.2 fun i hi => ?_⟩
    have := hc (i + 4) (by simp only [List.length_cons]; omega)
    rw [show off + 4 + i = off + (i + 4) by omega, this]
    rfl
  | [], _ :: _, _, h, _ => by simp [Quads] at h
  | _ :: _, [], _, h, _ => by simp [Quads] at h
  | [_], _ :: _, _, h, _ => by simp [Quads] at h
  | [_, _], _ :: _, _, h, _ => by simp [Quads] at h
  | [_, _, _], _ :: _, _, h, _ => by simp [Quads] at h

structure CInv (w wr : World) (bx : Nat) (x0 x1 x2 x3 : Value) (k : Int) (sh nu : List Int) (l : List Arr) (v : Value) : Prop where
  bxl : w.heap.size + 2 ≤ bx
  par : Quad wr w.heap.size x0 x1 x2 x3
  res : Quad wr (w.heap.size + 1) (.int .i64 0) (.slice none 0 0) (.slice none 0 0) (.slice none 0 0)
  own : ∃ qs, wr.ownsRow (bx + 1) 33 4 v l.length qs ∧ Quads (Free w bx v) wr qs l
  blk : ∃ a1 c1 a2 c2, Quad wr bx (.int .i64 k) (.slice a1 sh.length c1) (.slice a2 nu.length c2) v ∧ IntsOn (Free w bx v) wr a1 c1 sh ∧ IntsOn (Free w bx v) wr a2 c2 nu
  bel : Below w.heap.size w wr

/-- The literal, as the region leaves it. -/
structure Start (W0 W : World) (bx : Nat) (k : Int) (sh nu : List Int) : Prop where
  bel : Below W0.heap.size W0 W
  bxl : W0.heap.size ≤ bx
  blk : ∃ a1 c1 a2 c2, Quad W bx (.int .i64 k) (.slice a1 sh.length c1) (.slice a2 nu.length c2) (.slice none 0 0) ∧ IntsOn (fun g => W0.heap.size ≤ g ∧ g ≠ bx) W a1 c1 sh ∧ IntsOn (fun g => W0.heap.size ≤ g ∧ g ≠ bx) W a2 c2 nu

theorem Start.inv {w W0 W : World} {bx : Nat} {x0 x1 x2 x3 : Value} {k : Int} {sh nu : List Int} (h : Start W0 W bx k sh nu) (bw : Below w.heap.size w W0) (bz : W0.heap.size = w.heap.size + 2)
    (q1 : Quad W0 w.heap.size x0 x1 x2 x3) (q2 : Quad W0 (w.heap.size + 1) (.int .i64 0) (.slice none 0 0) (.slice none 0 0) (.slice none 0 0)) : CInv w W bx x0 x1 x2 x3 k sh nu [] (.slice none 0 0) := by
  obtain ⟨hb, hx, a1, c1, a2, c2, hq, i1, i2⟩ := h
  refine ⟨by omega, q1.below hb, q2.below hb, ⟨[], World.ownsRow_nil _ _ _ _, by rw [Quads]; trivial⟩, ⟨a1, c1, a2, c2, hq, i1.mono ?_, i2.mono ?_⟩, Below.then bw hb⟩
  all_goals exact fun g hg => ⟨by omega, hg.2, by simp [Value.ownBlock]⟩

theorem start1 {W0 w1 w2 : World} {k : Int} {sh nu : List Int} {a1 a2 : Option Addr} {c1 c2 : Nat} (i1 : IntsOn (fun g => W0.heap.size ≤ g) w1 a1 c1 sh) (e1 : Below W0.heap.size W0 w1) (b2 : Below w1.heap.size w1 w2) (i2 : IntsOn (fun g => w1.heap.size ≤ g) w2 a2 c2 nu) :
    Start W0 (w2.alloc (.cells #[.int .i64 k, .slice a1 sh.length c1, .slice a2 nu.length c2, .slice none 0 0] 33)) w2.heap.size k sh nu := by
  have s1 := e1.size
  have s2 := b2.size
  have hal : Below w2.heap.size w2 (w2.alloc (.cells #[.int .i64 k, .slice a1 sh.length c1, .slice a2 nu.length c2, .slice none 0 0] 33)) := (Below.refl _ _).alloc (Nat.le_refl _) _
  refine ⟨Below.then (Below.then e1 b2) hal, by omega, a1, c1, a2, c2, Quad.new _ _ _ _ _, i1.keep fun g hp hg => ⟨⟨hp, by omega⟩, fun o => (Below.then b2 hal).cell hg⟩, i2.keep fun g hp hg => ⟨⟨by omega, by omega⟩, fun o => hal.cell hg⟩⟩

/-- The four stores of a literal. -/
theorem set4 {w : World} {b : Nat} {z0 z1 z2 z3 : Value} (h : Quad w b z0 z1 z2 z3) (c0 c1 c2 c3 : Value) :
    Quad ((((w.setCell ⟨b, 0, none⟩ c0).setCell ⟨b, 1, none⟩ c1).setCell ⟨b, 2, none⟩ c2).setCell ⟨b, 3, none⟩ c3) b c0 c1 c2 c3 ∧
      ∀ g, g ≠ b → ((((w.setCell ⟨b, 0, none⟩ c0).setCell ⟨b, 1, none⟩ c1).setCell ⟨b, 2, none⟩ c2).setCell ⟨b, 3, none⟩ c3).heap[g]? = w.heap[g]? :=
  ⟨((((h.set c0).1.set c1).2.1.set c2).2.2.1.set c3).2.2.2, fun g hg => by rw [set_other _ _ _ _ _ hg, set_other _ _ _ _ _ hg, set_other _ _ _ _ _ hg, set_other _ _ _ _ _ hg]⟩
theorem set4_below {w : World} {B b : Nat} (hb : B ≤ b) (c0 c1 c2 c3 : Value) : Below B w ((((w.setCell ⟨b, 0, none⟩ c0).setCell ⟨b, 1, none⟩ c1).setCell ⟨b, 2, none⟩ c2).setCell ⟨b, 3, none⟩ c3) :=
  Below.setCell (Below.setCell (Below.setCell (Below.setCell (Below.refl _ _) (p := ⟨b, 0, none⟩) hb _) (p := ⟨b, 1, none⟩) hb _) (p := ⟨b, 2, none⟩) hb _) (p := ⟨b, 3, none⟩) hb _
theorem start4 {W0 w2 : World} {bx : Nat} {k : Int} {sh nu : List Int} {a1 a2 : Option Addr} {c1 c2 : Nat} {z0 z1 z2 z3 : Value} (hx : W0.heap.size ≤ bx) (e2 : Below W0.heap.size W0 w2) (q : Quad w2 bx z0 z1 z2 z3)
    (i1 : IntsOn (fun g => W0.heap.size ≤ g ∧ g ≠ bx) w2 a1 c1 sh) (i2 : IntsOn (fun g => W0.heap.size ≤ g ∧ g ≠ bx) w2 a2 c2 nu) :
    Start W0 ((((w2.setCell ⟨bx, 0, none⟩ (.int .i64 k)).setCell ⟨bx, 1, none⟩ (.slice a1 sh.length c1)).setCell ⟨bx, 2, none⟩ (.slice a2 nu.length c2)).setCell ⟨bx, 3, none⟩ (.slice none 0 0)) bx k sh nu := by
  obtain ⟨hq, ho⟩ := set4 q (.int .i64 k) (.slice a1 sh.length c1) (.slice a2 nu.length c2) (.slice none 0 0)
  exact ⟨e2.trans (set4_below hx _ _ _ _), hx, a1, c1, a2, c2, hq, i1.keep fun g hp _ => ⟨hp, fun o => World.cell?_of_block (ho g hp.2)⟩, i2.keep fun g hp _ => ⟨hp, fun o => World.cell?_of_block (ho g hp.2)⟩⟩
theorem start2 {W0 w1 w2 : World} {o : Obj} {k : Int} {sh nu : List Int} {a1 a2 : Option Addr} {c1 c2 : Nat} {z0 z1 z2 z3 : Value} (i1 : IntsOn (fun g => W0.heap.size ≤ g) w1 a1 c1 sh) (e1 : Below W0.heap.size W0 w1) (b2 : Below (w1.alloc o).heap.size (w1.alloc o) w2) (q : Quad w2 w1.heap.size z0 z1 z2 z3) (i2 : IntsOn (fun g => (w1.alloc o).heap.size ≤ g) w2 a2 c2 nu) :
    Start W0 ((((w2.setCell ⟨w1.heap.size, 0, none⟩ (.int .i64 k)).setCell ⟨w1.heap.size, 1, none⟩ (.slice a1 sh.length c1)).setCell ⟨w1.heap.size, 2, none⟩ (.slice a2 nu.length c2)).setCell ⟨w1.heap.size, 3, none⟩ (.slice none 0 0)) w1.heap.size k sh nu := by
  have hal : Below w1.heap.size w1 (w1.alloc o) := (Below.refl _ _).alloc (Nat.le_refl _) _
  have s1 := e1.size
  have s3 : (w1.alloc o).heap.size = w1.heap.size + 1 := by simp
  exact start4 s1 (Below.then e1 (Below.then hal b2)) q (i1.keep fun g hp hg => ⟨⟨hp, by omega⟩, fun o => (Below.then hal b2).cell hg⟩) (i2.mono fun g hp => ⟨by omega, by omega⟩)
theorem start3 {W0 w1 w2 : World} {o : Obj} {k : Int} {sh nu : List Int} {a1 a2 : Option Addr} {c1 c2 : Nat} {z0 z1 z2 z3 : Value} (i1 : IntsOn (fun g => (W0.alloc o).heap.size ≤ g) w1 a1 c1 sh) (e1 : Below (W0.alloc o).heap.size (W0.alloc o) w1) (b2 : Below w1.heap.size w1 w2) (q : Quad w2 W0.heap.size z0 z1 z2 z3) (i2 : IntsOn (fun g => w1.heap.size ≤ g) w2 a2 c2 nu) :
    Start W0 ((((w2.setCell ⟨W0.heap.size, 0, none⟩ (.int .i64 k)).setCell ⟨W0.heap.size, 1, none⟩ (.slice a1 sh.length c1)).setCell ⟨W0.heap.size, 2, none⟩ (.slice a2 nu.length c2)).setCell ⟨W0.heap.size, 3, none⟩ (.slice none 0 0)) W0.heap.size k sh nu := by
  have hal : Below W0.heap.size W0 (W0.alloc o) := (Below.refl _ _).alloc (Nat.le_refl _) _
  have s1 := e1.size
  have s3 : (W0.alloc o).heap.size = W0.heap.size + 1 := by simp
  exact start4 (Nat.le_refl _) (Below.then hal (Below.then e1 b2)) q (i1.keep fun g hp hg => ⟨⟨by omega, by omega⟩, fun o => b2.cell hg⟩) (i2.mono fun g hp => ⟨by omega, by omega⟩)

/-- One item more. -/
theorem clone_step {w wr w1 w2 : World} {bx g cap n : Nat} {x0 x1 x2 x3 c0 c1 c2 c3 v : Value} {k : Int} {sh nu : List Int} {l : List Arr} {A : Arr} {qs : List Value}
    (h : CInv w wr bx x0 x1 x2 x3 k sh nu l v) (ho : wr.ownsRow (bx + 1) 33 4 v l.length qs) (hq : Quads (Free w bx v) wr qs l)
    (b1 : Below wr.heap.size wr w1) (hA : ArrOn (fun g => wr.heap.size ≤ g) w1 (.agg #[c0, c1, c2, c3]) A) {o : Obj} (hn : n = l.length + 1)
    (hown : w2.ownsRow (bx + 1) 33 4 (.slice (some ⟨g, 0, none⟩) n cap) n (qs ++ [c0, c1, c2, c3])) (hgrow : (w1.alloc o).grownBy w2 v.ownBlock) (hat : v.ownBlock = some g ∨ g = w1.heap.size + 1) :
    CInv w (w2.setCell ⟨bx, 3, none⟩ (.slice (some ⟨g, 0, none⟩) n cap)) bx x0 x1 x2 x3 k sh nu (l ++ [A]) (.slice (some ⟨g, 0, none⟩) n cap) := by
  subst hn
  obtain ⟨bxl, par, res, _, ⟨a1, d1, a2, d2, blk, i1, i2⟩, bel⟩ := h
  have hg := hown.lt g rfl
  have hv := ho.lt
  have hbx := blk.lt
  have s1 := b1.size
  have s3 : (w1.alloc o).heap.size = w1.heap.size + 1 := by simp
  -- a block of w1 other than the row and the literal's
  have kept1 : ∀ b, b < w1.heap.size → v.ownBlock ≠ some b → w2.heap[b]? = w1.heap[b]? := fun b hb hne =>
    (hgrow.block b (by omega) (Ne.symm hne)).trans (Below.heap_alloc _ _ _ hb)
  have kept0 : ∀ b, b < wr.heap.size → v.ownBlock ≠ some b → w2.heap[b]? = wr.heap[b]? := fun b hb hne =>
    (kept1 b (by omega) hne).trans (b1.block b hb)
  have notv : ∀ b, b ≤ bx → v.ownBlock ≠ some b := fun b hb e => by have := hv b e; omega
  have keepF : ∀ b, Free w bx v b → b < wr.heap.size → Free w bx (.slice (some ⟨g, 0, none⟩) (l.length + 1) cap) b ∧ ∀ o, (w2.setCell ⟨bx, 3, none⟩ (.slice (some ⟨g, 0, none⟩) (l.length + 1) cap)).cell? ⟨b, o, none⟩ = wr.cell? ⟨b, o, none⟩ := by
    intro b hF hb
    refine ⟨⟨hF.1, hF.2.1, fun e => ?_⟩, fun o => World.cell?_of_block ((set_other _ _ _ _ _ hF.2.1).trans (kept0 b hb hF.2.2))⟩
    have e' : g = b := by simpa [Value.ownBlock] using e
    subst e'
    rcases hat with h1 | h1
    · exact hF.2.2 h1
    · omega
  have keepA : ∀ b, wr.heap.size ≤ b → b < w1.heap.size → Free w bx (.slice (some ⟨g, 0, none⟩) (l.length + 1) cap) b ∧ ∀ o, (w2.setCell ⟨bx, 3, none⟩ (.slice (some ⟨g, 0, none⟩) (l.length + 1) cap)).cell? ⟨b, o, none⟩ = w1.cell? ⟨b, o, none⟩ := by
    intro b hF hb
    have hne : v.ownBlock ≠ some b := fun e => by have := hv b e; omega
    refine ⟨⟨by omega, by omega, fun e => ?_⟩, fun o => World.cell?_of_block ((set_other _ _ _ _ _ (show b ≠ bx by omega)).trans (kept1 b hb hne))⟩
    have e' : g = b := by simpa [Value.ownBlock] using e
    subst e'
    rcases hat with h1 | h1
    · exact hne h1
    · omega
  refine ⟨bxl, par.keep ((set_other _ _ _ _ _ (by omega)).trans (kept0 _ (by omega) (notv _ (by omega)))), res.keep ((set_other _ _ _ _ _ (by omega)).trans (kept0 _ (by omega) (notv _ (by omega)))),
    ⟨qs ++ [c0, c1, c2, c3], ?_, (hq.keep keepF).snoc (hA.keep keepA)⟩, ⟨a1, d1, a2, d2, ((blk.keep (kept0 bx hbx (notv _ (Nat.le_refl _)))).set _).2.2.2, i1.keep keepF, i2.keep keepF⟩, ?_⟩
  · rw [List.length_append]
    exact ownsRow_setCell_other hown (by simp only [Value.ownBlock, ne_eq, Option.some.injEq]; omega) _
  · have hal : Below w.heap.size w (w1.alloc o) := (bel.trans (b1.mono bel.size)).alloc (by have := bel.size; omega) _
    refine Below.setCell (hal.grown hgrow (by have := bel.size; omega) fun b e => ?_) (p := ⟨bx, 3, none⟩) (by show _ ≤ bx; omega) _
    have := hv b e
    omega

/-- The literal's block is as it was when the copy has been appended. -/
theorem clone_mid {wr w1 w2 : World} {bx b n : Nat} {x0 x1 x2 x3 v : Value} {qs : List Value} {o : Obj} (h : Quad wr b x0 x1 x2 x3) (hb : b ≤ bx) (ho : wr.ownsRow (bx + 1) 33 4 v n qs) (b1 : Below wr.heap.size wr w1) (hgrow : (w1.alloc o).grownBy w2 v.ownBlock) : Quad w2 b x0 x1 x2 x3 := by
  have s1 := b1.size
  have s3 : (w1.alloc o).heap.size = w1.heap.size + 1 := by simp
  have hl := h.lt
  exact h.keep (((hgrow.block b (by omega) (fun e => by have := ho.lt b e.symm; omega)).trans (Below.heap_alloc _ _ _ (by omega))).trans (b1.block b hl))
theorem Start.undrew {W0 W : World} {bx : Nat} {k : Int} {sh nu : List Int} (h : Start W0.drew W bx k sh nu) : Start W0 W bx k sh nu := ⟨Below.trans (Below.refl _ _).drew h.bel, h.bxl, h.blk⟩
theorem own_alloc {w w1 : World} {base e size n : Nat} {v : Value} {qs : List Value} (ho : w.ownsRow base e size v n qs) (b1 : Below w.heap.size w w1) (o : Obj) : (w1.alloc o).ownsRow base e size v n qs := by
  have hv := ho.lt
  obtain ⟨h1, h2⟩ := ho
  refine ⟨h1, ?_⟩
  rcases h2 with h2 | ⟨g, cap, cur, rfl, hg, hh, r⟩
  · exact Or.inl h2
  · have l1 := (hv g rfl).2
    exact Or.inr ⟨g, cap, cur, rfl, hg, by rw [Below.heap_alloc _ _ _ (by have := b1.size; omega), b1.block g l1]; exact hh, r⟩
theorem own_form {w : World} {base e size n : Nat} {v : Value} {qs : List Value} (ho : w.ownsRow base e size v n qs) : ∃ a m c, v = .slice a m c := by
  rcases ho.2 with ⟨rfl, _⟩ | ⟨g, cap, cur, rfl, _⟩
  · exact ⟨_, _, _, rfl⟩
  · exact ⟨_, _, _, rfl⟩
/-- A new array as the result of a call. -/
def GiveNew (A : Arr) (w : World) (e : Ending) (w' : World) : Prop :=
  ∃ c0 c1 c2 c3, e = .returned (.agg #[c0, c1, c2, c3]) ∧ (∀ u ∈ [c0, c1, c2, c3], Value.oneCell' u = true) ∧ ArrOn (fun g => w.heap.size ≤ g) w' (.agg #[c0, c1, c2, c3]) A ∧ Below w.heap.size w w'
theorem GiveNew.mk {A : Arr} {w w' : World} {c0 c1 c2 c3 : Value} (h : ArrOn (fun g => w.heap.size ≤ g) w' (.agg #[c0, c1, c2, c3]) A) (hb : Below w.heap.size w w') : GiveNew A w (.returned (.agg #[c0, c1, c2, c3])) w' := by
  refine ⟨c0, c1, c2, c3, rfl, ?_, h, hb⟩
  obtain ⟨k, sh, nu, it⟩ := A
  rw [ArrOn] at h
  obtain ⟨sa, sc, na, nc, ia, ic, hv, -⟩ := h
  simp only [Value.agg.injEq, Array.mk.injEq, List.cons.injEq, and_true] at hv
  obtain ⟨rfl, rfl, rfl, rfl⟩ := hv
  intro u hu
  simp only [List.mem_cons, List.not_mem_nil, or_false] at hu
  rcases hu with rfl | rfl | rfl | rfl <;> rfl

/-- All items have been gathered. -/
theorem clone_end {w wr W : World} {bx : Nat} {x0 x1 x2 x3 v : Value} {k : Int} {sh nu : List Int} {l : List Arr} (h : CInv w wr bx x0 x1 x2 x3 k sh nu l v) (hk : -9223372036854775808 ≤ k ∧ k ≤ 9223372036854775807) (hW : ∀ b, b ≠ w.heap.size + 1 → W.heap[b]? = wr.heap[b]?)
    {a1 a2 : Option Addr} {d1 d2 : Nat} (blk : Quad wr bx (.int .i64 k) (.slice a1 sh.length d1) (.slice a2 nu.length d2) v) (i1 : IntsOn (Free w bx v) wr a1 d1 sh) (i2 : IntsOn (Free w bx v) wr a2 d2 nu) :
    ArrOn (fun g => w.heap.size ≤ g) W (.agg #[.int .i64 k, .slice a1 sh.length d1, .slice a2 nu.length d2, v]) (.mk k sh nu l) := by
  obtain ⟨bxl, _, _, ⟨qs, ho, hq⟩, _, _⟩ := h
  have keepF : ∀ b, Free w bx v b → b < wr.heap.size → w.heap.size ≤ b ∧ ∀ o, W.cell? ⟨b, o, none⟩ = wr.cell? ⟨b, o, none⟩ := fun b hF _ => ⟨by have := hF.1; omega, fun o => World.cell?_of_block (hW b (by have := hF.1; omega))⟩
  rw [ArrOn]
  have ho' := ho
  rcases ho'.2 with ⟨rfl, h0⟩ | ⟨g, cap, cur, rfl, hg, hh, hnc, hcm, hcs, htake⟩
  · have hl : l = [] := List.eq_nil_of_length_eq_zero h0
    subst hl
    exact ⟨a1, d1, a2, d2, none, 0, rfl, hk, i1.keep keepF, i2.keep keepF, Nat.le_refl _, by decide, 0, 0, fun g => absurd rfl g, by rw [ArrsOn]; trivial⟩
  · refine ⟨a1, d1, a2, d2, some ⟨g, 0, none⟩, cap, rfl, hk, i1.keep keepF, i2.keep keepF, hnc, by unfold maxLen at hcm; omega, g, 0, fun _ => ⟨rfl, by omega⟩, ?_⟩
    refine (hq.keep keepF).arrs fun i hi => ?_
    rw [World.cell?_of_block (hW g (by omega)), Nat.zero_add, ho.cellAt i (by rw [ho.1] at hi; exact hi)]
    simp [hi]
end Go.Proofs.Ytekbdiniibmhgaa.Shape
