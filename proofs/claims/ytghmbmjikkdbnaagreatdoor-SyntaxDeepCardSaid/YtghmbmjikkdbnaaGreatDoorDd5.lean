/-
  Layer 3: where an array lies: all the blocks that it reads are of a given kind (new ones, or ones other than a given one); and append onto a nil slice of ints.
  Layer 3: what Clone keeps while it gathers the copies of the items.
  An argument that is a slice of ints, as the row's reading gives it, holds numbers.
  An argument that is an array, as the row's reading gives it, holds an array.
-/
import Derived.Test.YtghmbmjikkdbnaaGreatDoorDd1
import Derived.OwnWalk
import Derived.Deep.AppendLies
import Derived.Laws.OwnMore
import Derived.Maps.AppendAt
import Derived.ProofKit
import Derived.OpenShut
import Derived.ShutString
import Derived.ChangeOld
import Derived.Below
import Derived.Lib.SmallJoins
import Derived.SizedLaws
namespace Go.Proofs.YtghmbmjikkdbnaaGreatDoor.Shape
open Go.RowKit
def IntsOn (P : Nat → Prop) (w : World) (a : Option Addr) (cap : Nat) (xs : List Int) : Prop :=
  IntsAt w a cap xs ∧ (xs ≠ [] → ∀ ad, a = some ad → P ad.block)
theorem IntsOn.keep {P R : Nat → Prop} {w w' : World} (hk : ∀ g, P g → g < w.heap.size → R g ∧ ∀ o, w'.cell? ⟨g, o, none⟩ = w.cell? ⟨g, o, none⟩) {a : Option Addr} {cap : Nat} {xs : List Int} (h : IntsOn P w a cap xs) : IntsOn R w' a cap xs := by
  obtain ⟨⟨h1, h2, h3, b, off, ha, hc⟩, hp⟩ := h
  by_cases hn : xs = []
  · exact ⟨⟨h1, h2, h3, b, off, ha, fun i hi => by subst hn; simp at hi⟩, fun g => absurd hn g⟩
  · have hb : P b := hp hn _ (ha hn)
    have hlen : 0 < xs.length := List.length_pos_iff.2 hn
    have := hk b hb (cell_lt (hc 0 hlen))
    refine ⟨⟨h1, h2, h3, b, off, ha, fun i hi => (this.2 _).trans (hc i hi)⟩, fun _ ad e => ?_⟩
    rw [ha hn] at e
    cases e
    exact this.1
mutual
/-- ArrAt, and each block that is read is of the kind P. -/
def ArrOn (P : Nat → Prop) (w : World) (v : Value) : Arr → Prop
  | .mk k sh nu it => ∃ sa sc na nc ia ic, v = .agg #[.int .i64 k, .slice sa (List.length sh) sc, .slice na (List.length nu) nc, .slice ia (List.length it) ic] ∧ (-9223372036854775808 ≤ k ∧ k ≤ 9223372036854775807) ∧
      IntsOn P w sa sc sh ∧ IntsOn P w na nc nu ∧ it.length ≤ ic ∧ ic ≤ 9223372036854775807 ∧ ∃ b off : Nat, (it ≠ [] → ia = some ⟨b, off, none⟩ ∧ P b) ∧ ArrsOn P w b off it
def ArrsOn (P : Nat → Prop) (w : World) (b off : Nat) : List Arr → Prop
  | [] => True
  | A :: r => (∃ c0 c1 c2 c3 : Value, (w.cell? ⟨b, off, none⟩ = some c0 ∧ w.cell? ⟨b, off + 1, none⟩ = some c1 ∧ w.cell? ⟨b, off + 2, none⟩ = some c2 ∧ w.cell? ⟨b, off + 3, none⟩ = some c3) ∧ ArrOn P w (.agg #[c0, c1, c2, c3]) A) ∧ ArrsOn P w b (off + 4) r
end
mutual
theorem ArrOn.at {P : Nat → Prop} {w : World} : ∀ {v : Value} {A : Arr}, ArrOn P w v A → ArrAt w v A
  | _, .mk k sh nu it, h => by
    rw [ArrOn] at h
    rw [ArrAt]
    obtain ⟨sa, sc, na, nc, ia, ic, hv, hk, hs, hn, h1, h2, b, off, ha, hc⟩ := h
    exact ⟨sa, sc, na, nc, ia, ic, hv, hk, hs.1, hn.1, h1, h2, b, off, fun g => (ha g).1, ArrsOn.at hc⟩
theorem ArrsOn.at {P : Nat → Prop} {w : World} : ∀ {b off : Nat} {l : List Arr}, ArrsOn P w b off l → ArrsAt w b off l
  | _, _, [], _ => by rw [ArrsAt]; trivial
  | b, off, A :: r, h => by
    rw [ArrsOn] at h
    rw [ArrsAt]
    obtain ⟨⟨c0, c1, c2, c3, hc, hA⟩, hr⟩ := h
    exact ⟨⟨c0, c1, c2, c3, hc, ArrOn.at hA⟩, ArrsOn.at hr⟩
end
mutual
theorem ArrOn.keep {P R : Nat → Prop} {w w' : World} (hk : ∀ g, P g → g < w.heap.size → R g ∧ ∀ o, w'.cell? ⟨g, o, none⟩ = w.cell? ⟨g, o, none⟩) : ∀ {v : Value} {A : Arr}, ArrOn P w v A → ArrOn R w' v A
  | _, .mk k sh nu it, h => by
    rw [ArrOn] at h ⊢
    obtain ⟨sa, sc, na, nc, ia, ic, hv, hk', hs, hn, h1, h2, b, off, ha, hc⟩ := h
    cases it with
    | nil => exact ⟨sa, sc, na, nc, ia, ic, hv, hk', hs.keep hk, hn.keep hk, h1, h2, b, off, fun g => absurd rfl g, by rw [ArrsOn]; trivial⟩
    | cons A r =>
      have hb := (ha (by simp)).2
      refine ⟨sa, sc, na, nc, ia, ic, hv, hk', hs.keep hk, hn.keep hk, h1, h2, b, off, fun g => ⟨(ha g).1, ?_⟩, ArrsOn.keep hk hb hc⟩
      rw [ArrsOn] at hc
      obtain ⟨⟨c0, _, _, _, ⟨e, -⟩, -⟩, -⟩ := hc
      exact (hk b hb (cell_lt e)).1
theorem ArrsOn.keep {P R : Nat → Prop} {w w' : World} (hk : ∀ g, P g → g < w.heap.size → R g ∧ ∀ o, w'.cell? ⟨g, o, none⟩ = w.cell? ⟨g, o, none⟩) : ∀ {b off : Nat}, P b → ∀ {l : List Arr}, ArrsOn P w b off l → ArrsOn R w' b off l
  | _, _, _, [], _ => by rw [ArrsOn]; trivial
  | b, off, hb, A :: r, h => by
    rw [ArrsOn] at h ⊢
    obtain ⟨⟨c0, c1, c2, c3, ⟨h0, h1, h2, h3⟩, hA⟩, hr⟩ := h
    have e := (hk b hb (cell_lt h0)).2
    exact ⟨⟨c0, c1, c2, c3, ⟨(e _).trans h0, (e _).trans h1, (e _).trans h2, (e _).trans h3⟩, ArrOn.keep hk hA⟩, ArrsOn.keep hk hb hr⟩
end
theorem ArrOn.below {P : Nat → Prop} {w w' : World} (hb : Below w.heap.size w w') {v : Value} {A : Arr} (h : ArrOn P w v A) : ArrOn (fun g => P g ∧ g < w.heap.size) w' v A :=
  h.keep fun _ hp hg => ⟨⟨hp, hg⟩, fun _ => hb.cell hg⟩
theorem IntsOn.below {P : Nat → Prop} {w w' : World} (hb : Below w.heap.size w w') {a : Option Addr} {cap : Nat} {xs : List Int} (h : IntsOn P w a cap xs) : IntsOn (fun g => P g ∧ g < w.heap.size) w' a cap xs :=
  h.keep fun _ hp hg => ⟨⟨hp, hg⟩, fun _ => hb.cell hg⟩
theorem IntsOn.mono {P R : Nat → Prop} {w : World} {a : Option Addr} {cap : Nat} {xs : List Int} (h : IntsOn P w a cap xs) (hm : ∀ g, P g → R g) : IntsOn R w a cap xs :=
  h.keep fun g hp _ => ⟨hm g hp, fun _ => rfl⟩
theorem ArrOn.mono {P R : Nat → Prop} {w : World} {v : Value} {A : Arr} (h : ArrOn P w v A) (hm : ∀ g, P g → R g) : ArrOn R w v A :=
  h.keep fun g hp _ => ⟨hm g hp, fun _ => rfl⟩
/-! ### append([]int(nil), xs...) -/
end Go.Proofs.YtghmbmjikkdbnaaGreatDoor.Shape

namespace Go.Proofs.YtghmbmjikkdbnaaGreatDoor.Shape
open Go.RowKit
def Quad (w : World) (b : Nat) (c0 c1 c2 c3 : Value) : Prop := w.heap[b]? = some (.cells #[c0, c1, c2, c3] 30 (0, 0))
theorem Quad.cells {w : World} {b : Nat} {c0 c1 c2 c3 : Value} (h : Quad w b c0 c1 c2 c3) : w.cell? ⟨b, 0, none⟩ = some c0 ∧ w.cell? ⟨b, 1, none⟩ = some c1 ∧ w.cell? ⟨b, 2, none⟩ = some c2 ∧ w.cell? ⟨b, 3, none⟩ = some c3 ∧
    w.frozen? ⟨b, 0, none⟩ = false ∧ w.frozen? ⟨b, 1, none⟩ = false ∧ w.frozen? ⟨b, 2, none⟩ = false ∧ w.frozen? ⟨b, 3, none⟩ = false := by
  unfold Quad at h
  refine ⟨?_, ?_, ?_, ?_, ?_, ?_, ?_, ?_⟩ <;> simp [World.cell?, World.frozen?, h]
theorem Quad.lt {w : World} {b : Nat} {c0 c1 c2 c3 : Value} (h : Quad w b c0 c1 c2 c3) : b < w.heap.size := cell_lt h.cells.1
theorem Quad.below {w w' : World} {b : Nat} {c0 c1 c2 c3 : Value} (hb : Below w.heap.size w w') (h : Quad w b c0 c1 c2 c3) : Quad w' b c0 c1 c2 c3 := (hb.block b h.lt).trans h
theorem Quad.new (w : World) (c0 c1 c2 c3 : Value) : Quad (w.alloc (.cells #[c0, c1, c2, c3] 30)) w.heap.size c0 c1 c2 c3 := heap_alloc_new w _
theorem Quad.keep {w w' : World} {b : Nat} {c0 c1 c2 c3 : Value} (h : Quad w b c0 c1 c2 c3) (hk : w'.heap[b]? = w.heap[b]?) : Quad w' b c0 c1 c2 c3 := hk.trans h
theorem set_other (w : World) (bx o g : Nat) (u : Value) (h : g ≠ bx) : (w.setCell ⟨bx, o, none⟩ u).heap[g]? = w.heap[g]? := Below.heap_setCell _ _ _ _ h
theorem Quad.set {w : World} {b : Nat} {c0 c1 c2 c3 : Value} (h : Quad w b c0 c1 c2 c3) (u : Value) :
    Quad (w.setCell ⟨b, 0, none⟩ u) b u c1 c2 c3 ∧ Quad (w.setCell ⟨b, 1, none⟩ u) b c0 u c2 c3 ∧ Quad (w.setCell ⟨b, 2, none⟩ u) b c0 c1 u c3 ∧ Quad (w.setCell ⟨b, 3, none⟩ u) b c0 c1 c2 u := by
  have hlt := h.lt
  have h' : w.heap[b] = .cells #[c0, c1, c2, c3] 30 (0, 0) := by unfold Quad at h; simpa [Array.getElem?_eq_getElem hlt] using h
  refine ⟨?_, ?_, ?_, ?_⟩ <;>
  · show (w.heap.modify b _)[b]? = _
    rw [Array.getElem?_eq_getElem (by simpa using hlt), Array.getElem_modify_self, h']
    rfl
def Quads (P : Nat → Prop) (w : World) : List Value → List Arr → Prop
  | [], [] => True
  | c0 :: c1 :: c2 :: c3 :: qs, A :: r => ArrOn P w (.agg #[c0, c1, c2, c3]) A ∧ Quads P w qs r
  | _, _ => False
theorem Quads.keep {P R : Nat → Prop} {w w' : World} (hk : ∀ g, P g → g < w.heap.size → R g ∧ ∀ o, w'.cell? ⟨g, o, none⟩ = w.cell? ⟨g, o, none⟩) : ∀ {qs : List Value} {l : List Arr}, Quads P w qs l → Quads R w' qs l
  | [], [], _ => by rw [Quads]; trivial
  | c0 :: c1 :: c2 :: c3 :: qs, A :: r, h => by
    rw [Quads] at h ⊢
    exact ⟨h.1.keep hk, Quads.keep hk h.2⟩
  | [], _ :: _, h => by simp [Quads] at h
  | _ :: _, [], h => by simp [Quads] at h
  | [_], _ :: _, h => by simp [Quads] at h
  | [_, _], _ :: _, h => by simp [Quads] at h
  | [_, _, _], _ :: _, h => by simp [Quads] at h
theorem Quads.snoc {P : Nat → Prop} {w : World} {c0 c1 c2 c3 : Value} {A : Arr} (hA : ArrOn P w (.agg #[c0, c1, c2, c3]) A) : ∀ {qs : List Value} {l : List Arr}, Quads P w qs l → Quads P w (qs ++ [c0, c1, c2, c3]) (l ++ [A])
  | [], [], _ => by
    show Quads P w [c0, c1, c2, c3] [A]
    rw [Quads, Quads]
    exact ⟨hA, trivial⟩
  | d0 :: d1 :: d2 :: d3 :: qs, B :: r, h => by
    rw [Quads] at h
    show Quads P w (d0 :: d1 :: d2 :: d3 :: (qs ++ [c0, c1, c2, c3])) (B :: (r ++ [A]))
    rw [Quads]
    exact ⟨h.1, Quads.snoc hA h.2⟩
  | [], _ :: _, h => by simp [Quads] at h
  | _ :: _, [], h => by simp [Quads] at h
  | [_], _ :: _, h => by simp [Quads] at h
  | [_, _], _ :: _, h => by simp [Quads] at h
  | [_, _, _], _ :: _, h => by simp [Quads] at h
def GiveNew (A : Arr) (w : World) (e : Ending) (w' : World) : Prop :=
  ∃ c0 c1 c2 c3, e = .returned (.agg #[c0, c1, c2, c3]) ∧ (∀ u ∈ [c0, c1, c2, c3], Value.oneCell' u = true) ∧ ArrOn (fun g => w.heap.size ≤ g) w' (.agg #[c0, c1, c2, c3]) A ∧ Below w.heap.size w w'
theorem GiveNew.mk {A : Arr} {w w' : World} {c0 c1 c2 c3 : Value} (h : ArrOn (fun g => w.heap.size ≤ g) w' (.agg #[c0, c1, c2, c3]) A) (hb : Below w.heap.size w w') : GiveNew A w (.returned (.agg #[c0, c1, c2, c3])) w' := by
  refine ⟨c0, c1, c2, c3, rfl, ?_, h, hb⟩
  obtain ⟨k, sh, nu, it⟩ := A
  rw [ArrOn] at h
  obtain ⟨sa, sc, na, nc, ia, ic, hv, -⟩ := h
  simp only [Value.agg.injEq, Array.mk.injEq, List.cons.injEq, and_true] at hv
  obtain ⟨rfl, rfl, rfl, rfl⟩ := hv
  intro u hu
  simp only [List.mem_cons, List.not_mem_nil, or_false] at hu
  rcases hu with rfl | rfl | rfl | rfl <;> rfl
end Go.Proofs.YtghmbmjikkdbnaaGreatDoor.Shape

namespace Go.Proofs.YtghmbmjikkdbnaaGreatDoor.Shape
open Go.ChangeShapes Go.WideShapes Go.ChangeAt Go.RowKit
set_option maxRecDepth 100000
theorem i64_bd {n : Int} (h : (Lit.int .i64 n).wf = true) : -9223372036854775808 ≤ n ∧ n ≤ 9223372036854775807 := by
  simpa [Lit.wf, IntKind.min, IntKind.max, IntKind.signed, IntKind.bits] using h
end Go.Proofs.YtghmbmjikkdbnaaGreatDoor.Shape

namespace Go.Proofs.YtghmbmjikkdbnaaGreatDoor.Shape
open Go.ChangeShapes Go.WideShapes Go.ChangeAt Go.RowKit Go.Joins
set_option maxRecDepth 100000
mutual
/-- No list of an array is longer than what a slice that is read may be. -/
def Reach : Arr → Prop
  | .mk _ sh nu it => sh.length * 8 ≤ 140737488351232 ∧ nu.length * 8 ≤ 140737488351232 ∧ it.length * 80 ≤ 140737488351232 ∧ ReachL it
def ReachL : List Arr → Prop
  | [] => True
  | A :: r => Reach A ∧ ReachL r
end
theorem ReachL.at : ∀ {l : List Arr}, ReachL l → ∀ {k : Nat} (hk : k < l.length), Reach l[k]
  | [], _, k, hk => absurd hk (by simp)
  | A :: r, h, 0, _ => by rw [ReachL] at h; exact h.1
  | A :: r, h, k + 1, hk => by
    rw [ReachL] at h
    simpa using ReachL.at h.2 (k := k) (by simpa using hk)
def Sized {H : Type} (t : TypeId) (d : DataW H) : Prop := ∀ n ∈ d.weights Tryz.prog t, n ≤ reachBytes
theorem bytesInt : Tryz.prog.bytesOf 3 = 8 := by kernel_rfl
theorem Sized.slice {H : Type} {t e : TypeId} {l r : List (DataW H)} (hu : Tryz.prog.underlying t = some (.slice e)) (h : Sized t (.slice l r)) :
    (l.length + r.length) * Tryz.prog.bytesOf e ≤ 140737488351232 ∧ ∀ d ∈ l, Sized e d := by
  have hw : (DataW.slice l r).weights Tryz.prog t = (l.length + r.length) * Tryz.prog.bytesOf e :: (DataW.weightsAll Tryz.prog e l ++ DataW.weightsAll Tryz.prog e r) := by rw [DataW.weights, hu]
  unfold Sized at h
  rw [hw] at h
  refine ⟨h _ (by simp), fun d hd n hn => h n (List.mem_cons_of_mem _ (List.mem_append.2 (.inl ?_)))⟩
  clear hw h
  induction l with
  | nil => cases hd
  | cons y l ih =>
    rw [DataW.weightsAll, List.mem_append]
    cases hd with
    | head => exact .inl hn
    | tail _ hd => exact .inr (ih hd)
theorem Sized.each {H : Type} {ts : List TypeId} {ds : List (DataW H)} (h : (DataW.weightsEach Tryz.prog ts ds).all (· ≤ reachBytes) = true) {j : Nat} {t : TypeId} {d : DataW H} (ht : ts[j]? = some t) (hd : ds[j]? = some d) : Sized t d :=
  fun n hn => by simpa using List.all_eq_true.1 h _ (DataW.weights_mem_each ht hd n hn)
theorem ints_cell {H : Type} {enc : TypeId × Value → H} {W : World} {fuel : Nat} {cs : List Value} {x : DataW H × List MemPlace}
    (hf : DataW.trod enc Tryz.prog W 0 (fun _ => true) true fuel 27 cs = some x) :
    ∃ a cap xs, cs = [.slice a (List.length xs) cap] ∧ IntsAt W a cap xs ∧ (Sized 27 x.1 → xs.length * 8 ≤ 140737488351232) := by
  rcases open_ints Tryz.underlying27 Tryz.underlying3 (by kernel_rfl) hf with ⟨hcs, _⟩ | ⟨x, l, c, zs, hcs, _, hl, hm, hz, hx, hcell, hwz⟩
  · exact ⟨none, 0, [], hcs, ⟨Nat.zero_le _, by decide, fun x hx => absurd hx (by simp), 0, 0, fun hn => absurd rfl hn, fun i hi => absurd hi (by simp)⟩, fun _ => by simp⟩
  · have hz' : zs.length = c := by simpa using hz
    have hlen : (zs.take l).length = l := by rw [List.length_take, Nat.min_eq_left (by omega)]
    have hb : ∀ y ∈ zs.take l, -9223372036854775808 ≤ y ∧ y ≤ 9223372036854775807 := fun y hy => i64_bd (hwz y (List.mem_of_mem_take hy))
    obtain ⟨b, off, spot⟩ := x
    refine ⟨some ⟨b, off, spot⟩, c, zs.take l, by rw [hlen]; exact hcs, ⟨by omega, by unfold maxLen at hm; omega, hb, ?_⟩, fun hz => ?_⟩
    rotate_left
    · rw [hx] at hz
      have := (hz.slice Tryz.underlying27).1
      rw [bytesInt] at this
      simp only [lits, List.length_map, List.length_take, List.length_drop] at this ⊢
      omega
    by_cases h0 : l = 0
    · subst h0
      exact ⟨0, 0, fun hn => absurd (by simp) hn, fun i hi => by simp at hi⟩
    · have hc := hcell 0 (by omega)
      have hspot : spot = none := by simpa [Addr.add] using World.cell?_spot hc
      subst hspot
      refine ⟨b, off, fun _ => rfl, fun i hi => ?_⟩
      have hi' : i < zs.length := by omega
      have := hcell i hi'
      rw [add_plain] at this
      rw [this]
      simp [hi']
theorem cellsArr : Tryz.prog.cellsOf 30 = 4 := by kernel_rfl
theorem cellsKind : Tryz.prog.cellsOf 26 = 1 := by kernel_rfl
theorem cellsInts : Tryz.prog.cellsOf 27 = 1 := by kernel_rfl
theorem cellsArrs : Tryz.prog.cellsOf 28 = 1 := by kernel_rfl
end Go.Proofs.YtghmbmjikkdbnaaGreatDoor.Shape
