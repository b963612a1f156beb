/-
  Layer 3: the reference's Clone.
  Layer 3: the reference's valid: a copy of a valid array, or the zero array.
  Layer 3: the reference's Scalar, Vector, Box and Boxes. (Written by wip/gen/array-makers.py.)
  Layer 3: the code points of a string, as the conversion to runes gives them.
  Layer 3: the reference's Text.
  Layer 3: the reference's Put: it appends one element to a row that its caller has gathered. (Written by wip/gen/array-put.py.)
  Layer 3: the reference's At.
  Layer 3: the reference's Of: what it returns, and its errors ahead of the loop.
  Layer 3: the reference's Of: what the loop keeps.
  Layer 3: the reference's Fill makes a new array.
  Layer 3: the reference's Of: numbers.
  Layer 3: the reference's Of: items. (Written by wip/gen/array-of.py.)
  Layer 3: the reference's Of, whole.
  Layer 3: an array equals itself; the reference's Same at two copies.
-/
import Derived.Test.YtekbdiniibmhgaaBinGO
import Derived.Test.YtekbdiniibmhgaaBinGI
import Derived.Test.YtekbdiniibmhgaaBinGV
import Derived.Deep.RegionHeldLaw
import Derived.Deep.RegionLaw
import Derived.Deep.RegionHeld
import Derived.StillTactics
import Derived.Test.YtekbdiniibmhgaaArrSameg
import Derived.Test.YtekbdiniibmhgaaArrFillg
import Derived.Laws.IdiomStrings
import Derived.Laws.Cover4
namespace Go.Proofs.Ytekbdiniibmhgaa.Shape
open Go.RowKit

/-- What the literal of Clone reads, behind steps that keep old memory. -/
theorem held_of {w w' : World} {B : Nat} {x0 x1 x2 : Value} {sa na : Option Addr} {sc nc : Nat} {sh nu : List Int}
    (h : w.cell? ⟨B, 0, none⟩ = some x0 ∧ w.cell? ⟨B, 1, none⟩ = some x1 ∧ w.cell? ⟨B, 2, none⟩ = some x2 ∧ IntsAt w sa sc sh ∧ IntsAt w na nc nu) (hb : Below w.heap.size w w') :
    w'.cell? ⟨B, 0, none⟩ = some x0 ∧ w'.cell? ⟨B, 1, none⟩ = some x1 ∧ w'.cell? ⟨B, 2, none⟩ = some x2 ∧ IntsAt w' sa sc sh ∧ IntsAt w' na nc nu ∧ Below w.heap.size w w' :=
  ⟨(hb.cell (cell_lt h.1)).trans h.1, (hb.cell (cell_lt h.2.1)).trans h.2.1, (hb.cell (cell_lt h.2.2.1)).trans h.2.2.1, h.2.2.2.1.below hb, h.2.2.2.2.below hb, hb⟩

theorem infoArr : (Try.prog.info? 33).map (fun i => (i.zero, i.size, i.bytes)) = some (some (.agg #[.int .i64 0, .slice none 0 0, .slice none 0 0, .slice none 0 0]), 4, 80) := by kernel_rfl

end Go.Proofs.Ytekbdiniibmhgaa.Shape

namespace Go.Proofs.Ytekbdiniibmhgaa.Shape
open Go.RowKit

theorem GiveNew.form {A : Arr} {w w' : World} {e : Ending} (h : GiveNew A w e w') : ∃ k sa ls sc na ln nc ia li ic, e = .returned (.agg #[.int .i64 k, .slice sa ls sc, .slice na ln nc, .slice ia li ic]) ∧
    ArrOn (fun g => w.heap.size ≤ g) w' (.agg #[.int .i64 k, .slice sa ls sc, .slice na ln nc, .slice ia li ic]) A ∧ Below w.heap.size w w' := by
  obtain ⟨c0, c1, c2, c3, rfl, _, hO, hb⟩ := h
  have hO' := hO
  obtain ⟨k, sh, nu, it⟩ := A
  rw [ArrOn] at hO
  obtain ⟨sa, sc, na, nc, ia, ic, hv, -⟩ := hO
  rw [hv] at hO'
  exact ⟨k, sa, _, sc, na, _, nc, ia, _, ic, by rw [hv], hO', hb⟩
/-- The array that the result's variable holds after its four stores. -/
theorem give_set4 {w w2 : World} {R : Nat} {A : Arr} {z0 z1 z2 z3 c0 c1 c2 c3 : Value} (hR : w.heap.size ≤ R) (hq : Quad w2 R z0 z1 z2 z3) (hO : ArrOn (fun g => R < g) w2 (.agg #[c0, c1, c2, c3]) A) (hb : Below w.heap.size w w2) :
    GiveNew A w (.returned (.agg #[c0, c1, c2, c3])) ((((w2.setCell ⟨R, 0, none⟩ c0).setCell ⟨R, 1, none⟩ c1).setCell ⟨R, 2, none⟩ c2).setCell ⟨R, 3, none⟩ c3) := by
  obtain ⟨_, ho⟩ := set4 hq c0 c1 c2 c3
  exact GiveNew.mk (hO.keep fun g hp _ => ⟨by omega, fun o => World.cell?_of_block (ho g (by omega))⟩) (hb.trans (set4_below hR _ _ _ _))
theorem zero_on (P : Nat → Prop) (w : World) : ArrOn P w (.agg #[.int .i64 0, .slice none 0 0, .slice none 0 0, .slice none 0 0]) zeroA := by
  show ArrOn P w _ (.mk 0 [] [] [])
  rw [ArrOn]
  exact ⟨none, 0, none, 0, none, 0, rfl, by decide, ⟨ints_nil w, fun g => absurd rfl g⟩, ⟨ints_nil w, fun g => absurd rfl g⟩, Nat.le_refl _, by decide, 0, 0, fun g => absurd rfl g, by rw [ArrsOn]; trivial⟩

def validA (A : Arr) : Arr := if rightE A = 0 then A else zeroA
theorem below_two (w : World) (o o' : Obj) : Below w.heap.size w ((w.alloc o).alloc o') := ((Below.refl _ _).alloc (Nat.le_refl _) o).alloc (by simp) o'

end Go.Proofs.Ytekbdiniibmhgaa.Shape

namespace Go.Proofs.Ytekbdiniibmhgaa.Shape
open Go.RowKit

theorem reach_plain {k : Int} {sh nu : List Int} (h1 : sh.length * 8 ≤ 140737488351232) (h2 : nu.length * 8 ≤ 140737488351232) : Reach (.mk k sh nu []) := by
  rw [Reach]; exact ⟨h1, h2, by simp, by rw [ReachL]; trivial⟩
theorem nat_bd {n : Nat} (h : n ≤ 9223372036854775807) : -9223372036854775808 ≤ (n : Int) ∧ (n : Int) ≤ 9223372036854775807 := by omega

theorem below_three (w : World) (o o' o'' : Obj) : Below w.heap.size w (((w.alloc o).alloc o').alloc o'') := (below_two w o o').alloc (by simp; omega) _
end Go.Proofs.Ytekbdiniibmhgaa.Shape

namespace Go.Proofs.Ytekbdiniibmhgaa.Shape
open Go.RowKit

def rnF (s : ByteArray) : Nat → Nat → List Int
  | 0, _ => []
  | b + 1, i => if i < s.size then ((Utf8.decode s i).1 : Int) :: rnF s b (i + (Utf8.decode s i).2) else []
/-- The code points of s. -/
def rn (s : ByteArray) : List Int := rnF s s.size 0
theorem rnF_eq (s : ByteArray) : ∀ (b i : Nat) (acc : Array Value), Conv.runesFrom s b i acc = acc ++ ((rnF s b i).map (Value.int .i32)).toArray
  | 0, _, acc => by simp [Conv.runesFrom, rnF]
  | b + 1, i, acc => by
    unfold Conv.runesFrom rnF
    split
    · show Conv.runesFrom s b (i + (Utf8.decode s i).2) (acc.push (.int .i32 (Int.ofNat (Utf8.decode s i).1))) = _
      rw [rnF_eq s b]; simp
    · simp
theorem rn_eq (s : ByteArray) : Conv.runesFrom s s.size 0 #[] = ((rn s).map (Value.int .i32)).toArray := by rw [rnF_eq, rn]; simp
theorem decode_bd (s : ByteArray) (i : Nat) : (Utf8.decode s i).1 < 2097152 := by
  have h : ∀ k, (s.get! k).toNat < 256 := fun k => (s.get! k).toNat_lt
  have h0 := h (i + 0)
  have h1 := h (i + 1)
  have h2 := h (i + 2)
  have h3 := h (i + 3)
  unfold Utf8.decode Utf8.runeError
  simp only
  repeat' split
  all_goals simp only
  all_goals omega
theorem rnF_bd (s : ByteArray) : ∀ (b i : Nat), ∀ x ∈ rnF s b i, 0 ≤ x ∧ x < 2097152
  | 0, _, x, hx => by simp [rnF] at hx
  | b + 1, i, x, hx => by
    unfold rnF at hx
    split at hx
    · rcases List.mem_cons.1 hx with e | e
      · have := decode_bd s i
        rw [e]; omega
      · exact rnF_bd s b _ x e
    · simp at hx
theorem rn_bd {s : ByteArray} : ∀ x ∈ rn s, 0 ≤ x ∧ x < 2097152 := rnF_bd s _ _
theorem rnF_len (s : ByteArray) : ∀ (b i : Nat), (rnF s b i).length ≤ b
  | 0, _ => by simp [rnF]
  | b + 1, i => by
    unfold rnF
    split
    · have := rnF_len s b (i + (Utf8.decode s i).2)
      simp only [List.length_cons]; omega
    · simp
theorem rn_len (s : ByteArray) : (rn s).length ≤ s.size := rnF_len s _ _
end Go.Proofs.Ytekbdiniibmhgaa.Shape

namespace Go.Proofs.Ytekbdiniibmhgaa.Shape
open Go.RowKit

/-- What Text keeps while it gathers the code points: the result's variable, the runes, the shape, the literal and the row. -/
structure TInv (w wr : World) (bs : Nat) (n : Nat) (R : List Int) (v : Value) (l : List Int) : Prop where
  bsl : w.heap.size + 2 ≤ bs
  res : Quad wr w.heap.size (.int .i64 0) (.slice none 0 0) (.slice none 0 0) (.slice none 0 0)
  run : ∀ j (h : j < R.length), wr.cell? ⟨w.heap.size + 1, j, none⟩ = some (.int .i32 R[j])
  len : wr.cell? ⟨bs, 0, none⟩ = some (.int .i64 n)
  blk : Quad wr (bs + 1) (.int .i64 2) (.slice (some ⟨bs, 0, none⟩) 1 1) v (.slice none 0 0)
  own : wr.ownsRow (bs + 2) 3 1 v l.length (l.map (Value.int .i64))
  bel : Below w.heap.size w wr
theorem text_step {w wr w1 w2 : World} {bs n m g cap : Nat} {R l : List Int} {v : Value} {x : Int} {o : Obj} (h : TInv w wr bs n R v l) (b1 : Below wr.heap.size wr w1) (hm : m = l.length + 1)
    (hown : w2.ownsRow (bs + 2) 3 1 (.slice (some ⟨g, 0, none⟩) m cap) m (l.map (Value.int .i64) ++ [.int .i64 x])) (hgrow : (w1.alloc o).grownBy w2 v.ownBlock) :
    TInv w (w2.setCell ⟨bs + 1, 2, none⟩ (.slice (some ⟨g, 0, none⟩) m cap)) bs n R (.slice (some ⟨g, 0, none⟩) m cap) (l ++ [x]) := by
  subst hm
  obtain ⟨bsl, res, run, len, blk, own, bel⟩ := h
  have hv := own.lt
  have hg := hown.lt g rfl
  have hbx := blk.lt
  have s1 := b1.size
  have s3 : (w1.alloc o).heap.size = w1.heap.size + 1 := by simp
  have kept0 : ∀ b, b ≤ bs + 1 → w2.heap[b]? = wr.heap[b]? := fun b hb =>
    ((hgrow.block b (by omega) (fun e => by have := hv b e.symm; omega)).trans (Below.heap_alloc _ _ _ (by omega))).trans (b1.block b (by omega))
  have keptS : ∀ b, b ≤ bs → (w2.setCell ⟨bs + 1, 2, none⟩ (.slice (some ⟨g, 0, none⟩) (l.length + 1) cap)).heap[b]? = wr.heap[b]? := fun b hb =>
    (set_other _ _ _ _ _ (by omega)).trans (kept0 b (by omega))
  refine ⟨bsl, res.keep (keptS _ (by omega)), fun j hj => (World.cell?_of_block (keptS (w.heap.size + 1) (by omega))).trans (run j hj), (World.cell?_of_block (keptS bs (Nat.le_refl _))).trans len,
    ((blk.keep (kept0 _ (Nat.le_refl _))).set _).2.2.1, ?_, ?_⟩
  · have e1 : (l ++ [x]).length = l.length + 1 := by simp
    have e2 : (l ++ [x]).map (Value.int .i64) = l.map (Value.int .i64) ++ [.int .i64 x] := by simp
    rw [e1, e2]
    exact ownsRow_setCell_other hown (by simp only [Value.ownBlock, ne_eq, Option.some.injEq]; omega) _
  · have hal : Below w.heap.size w (w1.alloc o) := (bel.trans (b1.mono bel.size)).alloc (by have := bel.size; omega) _
    refine Below.setCell (hal.grown hgrow (by have := bel.size; omega) fun b e => ?_) (p := ⟨bs + 1, 2, none⟩) (by show _ ≤ bs + 1; omega) _
    have := hv b e
    omega

theorem text_mid {wr w1 w2 : World} {bs b n m : Nat} {x0 x1 x2 x3 v : Value} {qs : List Value} {o : Obj} (h : Quad wr b x0 x1 x2 x3) (hb : b ≤ bs + 1) (ho : wr.ownsRow (bs + 2) 3 m v n qs) (b1 : Below wr.heap.size wr w1) (hgrow : (w1.alloc o).grownBy w2 v.ownBlock) : Quad w2 b x0 x1 x2 x3 := by
  have s1 := b1.size
  have s3 : (w1.alloc o).heap.size = w1.heap.size + 1 := by simp
  have hl := h.lt
  exact h.keep (((hgrow.block b (by omega) (fun e => by have := ho.lt b e.symm; omega)).trans (Below.heap_alloc _ _ _ (by omega))).trans (b1.block b hl))

def textA (s : ByteArray) : Arr := if ((runesBytes (rn s)).toList == s.toList) = true then validA (.mk 2 [((rn s).length : Int)] (rn s) []) else zeroA

end Go.Proofs.Ytekbdiniibmhgaa.Shape

namespace Go.Proofs.Ytekbdiniibmhgaa.Shape
open Go.RowKit

/-- What an append of one element to the row v leaves. -/
structure Put1 (w w' : World) (B : Nat) (e : TypeId) (size n : Nat) (v : Value) (qs news : List Value) (g cap : Nat) : Prop where
  own : w'.ownsRow B e size (.slice (some ⟨g, 0, none⟩) (n + 1) cap) (n + 1) (qs ++ news)
  far : ∀ b, b < w.heap.size → v.ownBlock ≠ some b → w'.heap[b]? = w.heap[b]?
  big : w.heap.size ≤ w'.heap.size
  bel : Below B w w'
  at' : v.ownBlock = some g ∨ w.heap.size ≤ g
theorem Put1.set {w w' : World} {B n g cap R o : Nat} {e : TypeId} {size : Nat} {v : Value} {qs news : List Value} (h : Put1 w w' B e size n v qs news g cap) (hR : w.heap.size ≤ R) (hB : B ≤ w.heap.size) (hg : g ≠ R) (u : Value) : Put1 w (w'.setCell ⟨R, o, none⟩ u) B e size n v qs news g cap := by
  obtain ⟨h1, h2, h3, h4, h5⟩ := h
  have hs : (w'.setCell ⟨R, o, none⟩ u).heap.size = w'.heap.size := by simp
  exact ⟨ownsRow_setCell_other h1 (by simp only [Value.ownBlock, ne_eq, Option.some.injEq]; omega) _, fun b hb hn => (set_other _ _ _ _ _ (by omega)).trans (h2 b hb hn), by omega, h4.setCell (by show _ ≤ R; omega) _, h5⟩
theorem Put1.of {w w4 w' : World} {B n g cap : Nat} {e : TypeId} {size : Nat} {v : Value} {qs news : List Value} (own : w.ownsRow B e size v n qs) (b4 : Below w.heap.size w w4) (hB : B ≤ w.heap.size) (h1 : w'.ownsRow B e size (.slice (some ⟨g, 0, none⟩) (n + 1) cap) (n + 1) (qs ++ news)) (hg : w4.grownBy w' v.ownBlock) (hat : v.ownBlock = some g ∨ g = w4.heap.size) : Put1 w w' B e size n v qs news g cap := by
  have hs := b4.size
  refine ⟨h1, fun b hb hn => (hg.block b (by omega) (Ne.symm hn)).trans (b4.block b hb), Nat.le_trans hs hg.size, (b4.mono hB).grown hg (by omega) (fun k hk => (own.lt k hk).1), ?_⟩
  rcases hat with h | h
  · exact Or.inl h
  · exact Or.inr (by omega)
theorem below_four (w : World) (o o' o'' p : Obj) : Below w.heap.size w ((((w.alloc o).alloc o').alloc o'').alloc p) := (below_three w o o' o'').alloc (by simp; omega) _
theorem put_mid {w4 w5 : World} {b : Nat} {x0 x1 x2 x3 v : Value} (h : Quad w4 b x0 x1 x2 x3) (hg : w4.grownBy w5 v.ownBlock) (hn : v.ownBlock ≠ some b) : Quad w5 b x0 x1 x2 x3 :=
  h.keep (hg.block b h.lt (Ne.symm hn))

end Go.Proofs.Ytekbdiniibmhgaa.Shape

namespace Go.Proofs.Ytekbdiniibmhgaa.Shape
open Go.RowKit

theorem GiveNew.drew {A : Arr} {w w' : World} {e : Ending} (h : GiveNew A w e w') : GiveNew A w e w'.drew := by
  obtain ⟨c0, c1, c2, c3, he, hc, hO, hb⟩ := h
  exact ⟨c0, c1, c2, c3, he, hc, ArrOn.keep (w := w') (w' := w'.drew) (fun g hp _ => ⟨hp, fun _ => rfl⟩) hO, hb.drew⟩
/-- One array in a block of its own, as the only item. -/
theorem boxed_on {P : Nat → Prop} {w : World} {b ic : Nat} {c0 c1 c2 c3 : Value} {A : Arr} (h : Quad w b c0 c1 c2 c3) (hb : P b) (hA : ArrOn P w (.agg #[c0, c1, c2, c3]) A) (hc : 1 ≤ ic) (hc2 : ic ≤ 1000000) :
    ArrOn P w (.agg #[.int .i64 3, .slice none 0 0, .slice none 0 0, .slice (some ⟨b, 0, none⟩) 1 ic]) (.mk 3 [] [] [A]) := by
  obtain ⟨m0, m1, m2, m3, -⟩ := h.cells
  rw [ArrOn]
  refine ⟨none, 0, none, 0, some ⟨b, 0, none⟩, ic, rfl, by decide, ⟨ints_nil w, fun g => absurd rfl g⟩, ⟨ints_nil w, fun g => absurd rfl g⟩, by simpa using hc, by omega, b, 0, fun _ => ⟨rfl, hb⟩, ?_⟩
  rw [ArrsOn, ArrsOn]
  exact ⟨⟨c0, c1, c2, c3, ⟨m0, m1, m2, m3⟩, hA⟩, trivial⟩
theorem one_on {P : Nat → Prop} {w : World} {b : Nat} {k n : Int} (hk : -9223372036854775808 ≤ k ∧ k ≤ 9223372036854775807) (hn : -9223372036854775808 ≤ n ∧ n ≤ 9223372036854775807) (h : w.cell? ⟨b, 0, none⟩ = some (.int .i64 n)) (hb : P b) :
    ArrOn P w (.agg #[.int .i64 k, .slice none 0 0, .slice (some ⟨b, 0, none⟩) 1 1, .slice none 0 0]) (.mk k [] [n] []) := by
  rw [ArrOn]
  exact ⟨none, 0, some ⟨b, 0, none⟩, 1, none, 0, rfl, hk, ⟨ints_nil w, fun g => absurd rfl g⟩, ⟨ints_one w b 1 n hn h (by decide) (by decide), fun _ ad e => by cases e; exact hb⟩, Nat.le_refl _, by decide, 0, 0, fun g => absurd rfl g, by rw [ArrsOn]; trivial⟩

/-- The element of an array, as a scalar. -/
def atA (A : Arr) (i : Int) : Arr := if i < 0 ∨ (aSize A : Int) ≤ i then zeroA else if A.kind = 3 then .mk 3 [] [] [A.items.getD i.toNat zeroA] else .mk A.kind [] [A.nums.getD i.toNat 0] []
end Go.Proofs.Ytekbdiniibmhgaa.Shape

namespace Go.Proofs.Ytekbdiniibmhgaa.Shape
open Go.RowKit

/-- A new array and an error as the results of a call. -/
def GiveNewE (A : Arr) (er : Int) (w : World) (e : Ending) (w' : World) : Prop :=
  ∃ c0 c1 c2 c3, e = .returned (.tuple #[.agg #[c0, c1, c2, c3], .int .i64 er]) ∧ GiveNew A w (.returned (.agg #[c0, c1, c2, c3])) w'
theorem GiveNewE.mk {A : Arr} {er : Int} {w w' : World} {c0 c1 c2 c3 : Value} (h : GiveNew A w (.returned (.agg #[c0, c1, c2, c3])) w') : GiveNewE A er w (.returned (.tuple #[.agg #[c0, c1, c2, c3], .int .i64 er])) w' := ⟨c0, c1, c2, c3, rfl, h⟩

/-- The first n elements of a list, repeated cyclically. -/
def cyc {α : Type} (l : List α) (z : α) (n : Nat) : List α := (List.range n).map (fun i => l.getD (i % l.length) z)
theorem cyc_len {α : Type} (l : List α) (z : α) (n : Nat) : (cyc l z n).length = n := by simp [cyc]
theorem cyc_succ {α : Type} (l : List α) (z : α) (n : Nat) : cyc l z (n + 1) = cyc l z n ++ [l.getD (n % l.length) z] := by
  rw [cyc, List.range_succ, List.map_append]; rfl
/-- What Of takes its elements from. -/
def srcA (F : Arr) : Arr := if aSize F = 0 then fillA F.kind else F
def ofA (sh : List Int) (F : Arr) : Arr × Int :=
  if rightE F = 0 then
    (if dimsE sh = 0 then
      (if (srcA F).kind = 3 then
        (if pr sh + sumW (cyc (srcA F).items zeroA (pr sh).toNat) ≤ 262144 then (.mk 3 sh [] (cyc (srcA F).items zeroA (pr sh).toNat), 0) else (zeroA, 21))
      else (.mk (srcA F).kind sh (cyc (srcA F).nums 0 (pr sh).toNat) [], 0))
    else (zeroA, dimsE sh))
  else (zeroA, 1)

end Go.Proofs.Ytekbdiniibmhgaa.Shape

namespace Go.Proofs.Ytekbdiniibmhgaa.Shape
open Go.RowKit

/-- A block that neither the literal nor the gathered row lies in, and that is no older than W0. -/
def Far (W0 : World) (bx : Nat) (v : Value) (g : Nat) : Prop := W0.heap.size ≤ g ∧ g ≠ bx ∧ v.ownBlock ≠ some g
/-- What Of keeps: the literal's block and the row v that it gathers. -/
structure OInv (W0 wr : World) (bx : Nat) (k : Int) (sh : List Int) (c2 c3 v : Value) (e : TypeId) (size n : Nat) (qs : List Value) : Prop where
  bel : Below W0.heap.size W0 wr
  bxl : W0.heap.size ≤ bx
  own : wr.ownsRow (bx + 1) e size v n qs
  blk : ∃ a1 c1, Quad wr bx (.int .i64 k) (.slice a1 sh.length c1) c2 c3 ∧ IntsOn (Far W0 bx v) wr a1 c1 sh
/-- The world behind an element: what is kept of the one before. -/
theorem of_kept {W0 wr w1 w2 : World} {bx n g cap : Nat} {k : Int} {sh : List Int} {c2 c3 v d0 d1 d2 d3 : Value} {e : TypeId} {size : Nat} {qs news : List Value} (h : OInv W0 wr bx k sh c2 c3 v e size n qs) (b1 : Below wr.heap.size wr w1) (P : Put1 w1 w2 (bx + 1) e size n v qs news g cap) :
    (∀ b, Far W0 bx v b → b < wr.heap.size → Far W0 bx (.slice (some ⟨g, 0, none⟩) (n + 1) cap) b ∧ ∀ o, ((((w2.setCell ⟨bx, 0, none⟩ d0).setCell ⟨bx, 1, none⟩ d1).setCell ⟨bx, 2, none⟩ d2).setCell ⟨bx, 3, none⟩ d3).cell? ⟨b, o, none⟩ = wr.cell? ⟨b, o, none⟩) ∧
    (∀ b, wr.heap.size ≤ b → b < w1.heap.size → Far W0 bx (.slice (some ⟨g, 0, none⟩) (n + 1) cap) b ∧ ∀ o, ((((w2.setCell ⟨bx, 0, none⟩ d0).setCell ⟨bx, 1, none⟩ d1).setCell ⟨bx, 2, none⟩ d2).setCell ⟨bx, 3, none⟩ d3).cell? ⟨b, o, none⟩ = w1.cell? ⟨b, o, none⟩) := by
  obtain ⟨bel, bxl, own, a1, c1, blk, i1⟩ := h
  have hv := own.lt
  have s0 := bel.size
  have s1 := b1.size
  have hbx := blk.lt
  have hset : ∀ b, b ≠ bx → ((((w2.setCell ⟨bx, 0, none⟩ d0).setCell ⟨bx, 1, none⟩ d1).setCell ⟨bx, 2, none⟩ d2).setCell ⟨bx, 3, none⟩ d3).heap[b]? = w2.heap[b]? := fun b hb => by
    rw [set_other _ _ _ _ _ hb, set_other _ _ _ _ _ hb, set_other _ _ _ _ _ hb, set_other _ _ _ _ _ hb]
  have hgb : ∀ b, v.ownBlock ≠ some b → b < w1.heap.size → (Value.slice (some ⟨g, 0, none⟩) (n + 1) cap).ownBlock ≠ some b := by
    intro b hn hb e
    have e' : g = b := by simpa [Value.ownBlock] using e
    subst e'
    rcases P.at' with h1 | h1
    · exact hn h1
    · omega
  refine ⟨fun b hF hb => ⟨⟨hF.1, hF.2.1, hgb b hF.2.2 (by omega)⟩, fun o => World.cell?_of_block ((hset b hF.2.1).trans ((P.far b (by omega) hF.2.2).trans (b1.block b hb)))⟩, fun b hF hb => ?_⟩
  have hne : v.ownBlock ≠ some b := fun e => by have := (hv b e).2; omega
  exact ⟨⟨by omega, by omega, hgb b hne hb⟩, fun o => World.cell?_of_block ((hset b (by omega)).trans (P.far b hb hne))⟩
theorem of_step {W0 wr w1 w2 : World} {bx n g cap : Nat} {k : Int} {sh : List Int} {c2 c3 v d2 d3 : Value} {e : TypeId} {size : Nat} {qs news : List Value} {a1 : Option Addr} {c1 : Nat} (h : OInv W0 wr bx k sh c2 c3 v e size n qs) (b1 : Below wr.heap.size wr w1) (P : Put1 w1 w2 (bx + 1) e size n v qs news g cap)
    (blk : Quad wr bx (.int .i64 k) (.slice a1 sh.length c1) c2 c3) (i1 : IntsOn (Far W0 bx v) wr a1 c1 sh) :
    OInv W0 ((((w2.setCell ⟨bx, 0, none⟩ (.int .i64 k)).setCell ⟨bx, 1, none⟩ (.slice a1 sh.length c1)).setCell ⟨bx, 2, none⟩ d2).setCell ⟨bx, 3, none⟩ d3) bx k sh d2 d3 (.slice (some ⟨g, 0, none⟩) (n + 1) cap) e size (n + 1) (qs ++ news) := by
  obtain ⟨keep, -⟩ := of_kept (d0 := .int .i64 k) (d1 := .slice a1 sh.length c1) (d2 := d2) (d3 := d3) h b1 P
  obtain ⟨bel, bxl, own, -⟩ := h
  have hv := own.lt
  have s1 := b1.size
  have hbx := blk.lt
  have hg := P.own.lt g rfl
  have hb2 : Quad w2 bx (.int .i64 k) (.slice a1 sh.length c1) c2 c3 := blk.keep ((P.far bx (by omega) (fun e => by have := (hv bx e).1; omega)).trans (b1.block bx hbx))
  have go : ∀ {w : World} {o : Nat} {u : Value}, w.ownsRow (bx + 1) e size (.slice (some ⟨g, 0, none⟩) (n + 1) cap) (n + 1) (qs ++ news) → (w.setCell ⟨bx, o, none⟩ u).ownsRow (bx + 1) e size (.slice (some ⟨g, 0, none⟩) (n + 1) cap) (n + 1) (qs ++ news) :=
    fun hw => ownsRow_setCell_other hw (by simp only [Value.ownBlock, ne_eq, Option.some.injEq]; omega) _
  refine ⟨((bel.trans (b1.mono bel.size)).trans (P.bel.mono (by omega))).trans (set4_below bxl _ _ _ _), bxl, go (go (go (go P.own))), a1, c1, (set4 hb2 _ _ _ _).1, i1.keep keep⟩
/-- The literal, as the region leaves it. -/
theorem of_start {W0 W : World} {bx : Nat} {k : Int} {sh : List Int} {a1 : Option Addr} {c1 : Nat} {e : TypeId} {size : Nat} (bel : Below W0.heap.size W0 W) (bxl : W0.heap.size ≤ bx) (q : Quad W bx (.int .i64 k) (.slice a1 sh.length c1) (.slice none 0 0) (.slice none 0 0)) (i1 : IntsOn (fun g => W0.heap.size ≤ g ∧ g ≠ bx) W a1 c1 sh) :
    OInv W0 W bx k sh (.slice none 0 0) (.slice none 0 0) (.slice none 0 0) e size 0 [] :=
  ⟨bel, bxl, World.ownsRow_nil _ _ _ _, a1, c1, q, i1.mono fun g hg => ⟨hg.1, hg.2, by simp [Value.ownBlock]⟩⟩
/-- .. whether the literal's block was made behind the copy of the shape or ahead of it. -/
theorem of_start1 {W0 w1 : World} {k : Int} {sh : List Int} {a1 : Option Addr} {c1 : Nat} {e : TypeId} {size : Nat} (i1 : IntsOn (fun g => W0.heap.size ≤ g) w1 a1 c1 sh) (e1 : Below W0.heap.size W0 w1) :
    OInv W0 (w1.alloc (.cells #[.int .i64 k, .slice a1 sh.length c1, .slice none 0 0, .slice none 0 0] 33)) w1.heap.size k sh (.slice none 0 0) (.slice none 0 0) (.slice none 0 0) e size 0 [] := by
  have hal := below_new w1 (.cells #[.int .i64 k, .slice a1 sh.length c1, .slice none 0 0, .slice none 0 0] 33)
  exact of_start (Below.then e1 hal) e1.size (Quad.new _ _ _ _ _) (i1.keep fun g hp hg => ⟨⟨hp, by omega⟩, fun o => hal.cell hg⟩)
theorem of_start2 {W0 w1 : World} {o : Obj} {k : Int} {sh : List Int} {a1 : Option Addr} {c1 : Nat} {e : TypeId} {size : Nat} {z0 z1 z2 z3 : Value} (e1 : Below (W0.alloc o).heap.size (W0.alloc o) w1) (i1 : IntsOn (fun g => (W0.alloc o).heap.size ≤ g) w1 a1 c1 sh) (q : Quad w1 W0.heap.size z0 z1 z2 z3) :
    OInv W0 ((((w1.setCell ⟨W0.heap.size, 0, none⟩ (.int .i64 k)).setCell ⟨W0.heap.size, 1, none⟩ (.slice a1 sh.length c1)).setCell ⟨W0.heap.size, 2, none⟩ (.slice none 0 0)).setCell ⟨W0.heap.size, 3, none⟩ (.slice none 0 0)) W0.heap.size k sh (.slice none 0 0) (.slice none 0 0) (.slice none 0 0) e size 0 [] := by
  have hal := below_new W0 o
  have s3 : (W0.alloc o).heap.size = W0.heap.size + 1 := by simp
  obtain ⟨hq, ho⟩ := set4 q (.int .i64 k) (.slice a1 sh.length c1) (.slice none 0 0) (.slice none 0 0)
  exact of_start ((Below.then hal e1).trans (set4_below (Nat.le_refl _) _ _ _ _)) (Nat.le_refl _) hq (i1.keep fun g hp _ => ⟨⟨by omega, by omega⟩, fun o => World.cell?_of_block (ho g (by omega))⟩)
end Go.Proofs.Ytekbdiniibmhgaa.Shape

namespace Go.Proofs.Ytekbdiniibmhgaa.Shape
open Go.RowKit

theorem cells_on {P : Nat → Prop} {w : World} {b b2 : Nat} (h : w.cell? ⟨b, 0, none⟩ = some (.int .i64 1) ∧ w.cell? ⟨b, 1, none⟩ = some (.slice (some ⟨b2, 0, none⟩) 1 1) ∧ w.cell? ⟨b, 2, none⟩ = some (.slice none 0 0) ∧ w.cell? ⟨b, 3, none⟩ = some (.slice none 0 0)) (h2 : w.cell? ⟨b2, 0, none⟩ = some (.int .i64 0)) (hb : P b) (hb2 : P b2) :
    ArrOn P w (.agg #[.int .i64 3, .slice none 0 0, .slice none 0 0, .slice (some ⟨b, 0, none⟩) 1 1]) (.mk 3 [] [] [.mk 1 [0] [] []]) := by
  obtain ⟨m0, m1, m2, m3⟩ := h
  have hin : ArrOn P w (.agg #[.int .i64 1, .slice (some ⟨b2, 0, none⟩) 1 1, .slice none 0 0, .slice none 0 0]) (.mk 1 [0] [] []) := by
    rw [ArrOn]
    exact ⟨some ⟨b2, 0, none⟩, 1, none, 0, none, 0, rfl, by decide, ⟨ints_one w b2 1 0 (by decide) h2 (by decide) (by decide), fun _ ad e => by cases e; exact hb2⟩, ⟨ints_nil w, fun g => absurd rfl g⟩, Nat.le_refl _, by decide, 0, 0, fun g => absurd rfl g, by rw [ArrsOn]; trivial⟩
  rw [ArrOn]
  refine ⟨none, 0, none, 0, some ⟨b, 0, none⟩, 1, rfl, by decide, ⟨ints_nil w, fun g => absurd rfl g⟩, ⟨ints_nil w, fun g => absurd rfl g⟩, Nat.le_refl _, by decide, b, 0, fun _ => ⟨rfl, hb⟩, ?_⟩
  rw [ArrsOn, ArrsOn]
  exact ⟨⟨_, _, _, _, ⟨m0, m1, m2, m3⟩, hin⟩, trivial⟩

end Go.Proofs.Ytekbdiniibmhgaa.Shape

namespace Go.Proofs.Ytekbdiniibmhgaa.Shape
open Go.RowKit

theorem own_below {w w1 : World} {base e size n : Nat} {v : Value} {qs : List Value} (ho : w.ownsRow base e size v n qs) (b1 : Below w.heap.size w w1) : w1.ownsRow base e size v n qs := by
  have hv := ho.lt
  obtain ⟨h1, h2⟩ := ho
  refine ⟨h1, ?_⟩
  rcases h2 with h2 | ⟨g, cap, cur, rfl, hg, hh, r⟩
  · exact Or.inl h2
  · exact Or.inr ⟨g, cap, cur, rfl, hg, (b1.block g (hv g rfl).2).trans hh, r⟩
theorem OInv.undrew {W0 wr : World} {bx n : Nat} {k : Int} {sh : List Int} {c2 c3 v : Value} {e : TypeId} {size : Nat} {qs : List Value} (h : OInv W0.drew wr bx k sh c2 c3 v e size n qs) : OInv W0 wr bx k sh c2 c3 v e size n qs :=
  ⟨Below.trans (Below.refl _ _).drew h.bel, h.bxl, h.own, h.blk⟩
/-- The literal's block behind an element. -/
theorem of_mid {W0 wr w1 w2 : World} {bx n g cap : Nat} {k : Int} {sh : List Int} {c2 c3 v x0 x1 x2 x3 : Value} {e : TypeId} {size : Nat} {qs news : List Value} (h : OInv W0 wr bx k sh c2 c3 v e size n qs) (b1 : Below wr.heap.size wr w1) (P : Put1 w1 w2 (bx + 1) e size n v qs news g cap) (blk : Quad wr bx x0 x1 x2 x3) : Quad w2 bx x0 x1 x2 x3 := by
  have hv := h.own.lt
  have s1 := b1.size
  have hbx := blk.lt
  exact blk.keep ((P.far bx (by omega) (fun e => by have := (hv bx e).1; omega)).trans (b1.block bx hbx))
/-- A scalar that holds one number. -/
theorem one_form {k x : Int} {w w' : World} {e : Ending} (h : GiveNew (.mk k [] [x] []) w e w') : ∃ ea el ecc eb ef ec eo lo co, e = .returned (.agg #[.int .i64 k, .slice ea el ecc, .slice (some ⟨eb, ef, none⟩) 1 ec, .slice eo lo co]) ∧ w'.cell? ⟨eb, ef, none⟩ = some (.int .i64 x) ∧ Below w.heap.size w w' := by
  obtain ⟨c0, c1, c2, c3, rfl, _, hO, hb⟩ := h
  rw [ArrOn] at hO
  obtain ⟨sa, sc, na, nc, ia, ic, hv, -, -, ⟨⟨_, _, _, b, off, ha, hc⟩, -⟩, -⟩ := hO
  have e := ha (by simp)
  subst e
  exact ⟨sa, _, sc, b, off, nc, ia, _, ic, by rw [hv]; rfl, by simpa using hc 0 (by simp), hb⟩

theorem cyc_bd {l : List Int} {n : Nat} (h : ∀ x ∈ l, -9223372036854775808 ≤ x ∧ x ≤ 9223372036854775807) : ∀ x ∈ cyc l 0 n, -9223372036854775808 ≤ x ∧ x ≤ 9223372036854775807 := by
  intro x hx
  rw [cyc, List.mem_map] at hx
  obtain ⟨i, -, rfl⟩ := hx
  rw [List.getD_eq_getElem?_getD]
  cases he : l[i % l.length]? with
  | none => decide
  | some y => exact h y (List.mem_of_getElem? he)
/-- The array of numbers that Of has gathered. -/
theorem of_num_out {W0 wr : World} {bx n B : Nat} {k : Int} {sh : List Int} {a2 : Value} {nu : List Int} {a1 va : Option Addr} {c1 vl vc : Nat} (h : OInv W0 wr bx k sh (.slice va vl vc) a2 (.slice va vl vc) 3 1 n (nu.map (Value.int .i64))) (hk : -9223372036854775808 ≤ k ∧ k ≤ 9223372036854775807) (hb : ∀ x ∈ nu, -9223372036854775808 ≤ x ∧ x ≤ 9223372036854775807) (hB : B < W0.heap.size)
    (_blk : Quad wr bx (.int .i64 k) (.slice a1 sh.length c1) (.slice va vl vc) a2) (i1 : IntsOn (Far W0 bx (.slice va vl vc)) wr a1 c1 sh) :
    ArrOn (fun g => B < g) wr (.agg #[.int .i64 k, .slice a1 sh.length c1, .slice va vl vc, .slice none 0 0]) (.mk k sh nu []) := by
  have own := h.own
  have hbx := h.bxl
  have hn : n = nu.length := by have := own.1; simpa using this.symm
  obtain ⟨av, cv, hv, hon⟩ := ints_of_own hn own hb
  rw [hv, ArrOn]
  exact ⟨a1, c1, av, cv, none, 0, rfl, hk, i1.mono fun g hg => by have := hg.1; omega, hon.mono fun g hg => by omega, Nat.le_refl _, by decide, 0, 0, fun g => absurd rfl g, by rw [ArrsOn]; trivial⟩

theorem GiveNew.typed {k : Int} {gs gn : List Int} {gi : List Arr} {w w' : World} {e : Ending} (h : GiveNew (.mk k gs gn gi) w e w') : ∃ sa sc na nc ia ic, e = .returned (.agg #[.int .i64 k, .slice sa gs.length sc, .slice na gn.length nc, .slice ia gi.length ic]) ∧
    ArrOn (fun g => w.heap.size ≤ g) w' (.agg #[.int .i64 k, .slice sa gs.length sc, .slice na gn.length nc, .slice ia gi.length ic]) (.mk k gs gn gi) ∧ Below w.heap.size w w' := by
  obtain ⟨c0, c1, c2, c3, rfl, _, hO, hb⟩ := h
  have hO' := hO
  rw [ArrOn] at hO
  obtain ⟨sa, sc, na, nc, ia, ic, hv, -⟩ := hO
  rw [hv] at hO'
  exact ⟨sa, sc, na, nc, ia, ic, by rw [hv], hO', hb⟩

end Go.Proofs.Ytekbdiniibmhgaa.Shape

namespace Go.Proofs.Ytekbdiniibmhgaa.Shape
open Go.RowKit

/-- What Of returns for boxes: an array, or an error of too much weight. -/
def OfBox (sh : List Int) (gi : List Arr) (w : World) (e : Ending) (w' : World) : Prop :=
  if pr sh + sumW (cyc gi zeroA (pr sh).toNat) ≤ 262144 then GiveNewE (.mk 3 sh [] (cyc gi zeroA (pr sh).toNat)) 0 w e w' else GiveNewE zeroA 21 w e w'
theorem OfBox.yes {sh : List Int} {gi : List Arr} {w w' : World} {e : Ending} (h : Hid (pr sh + sumW (cyc gi zeroA (pr sh).toNat) ≤ 262144)) (g : GiveNewE (.mk 3 sh [] (cyc gi zeroA (pr sh).toNat)) 0 w e w') : OfBox sh gi w e w' := by
  unfold OfBox; rw [if_pos h.out]; exact g
theorem OfBox.no {sh : List Int} {gi : List Arr} {w w' : World} {e : Ending} (h : Hid (262144 < pr sh + sumW (cyc gi zeroA (pr sh).toNat))) (g : GiveNewE zeroA 21 w e w') : OfBox sh gi w e w' := by
  unfold OfBox; rw [if_neg (by have := h.out; omega)]; exact g
/-- A boxed scalar. -/
theorem box_form {A : Arr} {w w' : World} {e : Ending} (h : GiveNew (.mk 3 [] [] [A]) w e w') : ∃ ea el ecc eo lo co eb ef ec c0 c1 c2 c3, e = .returned (.agg #[.int .i64 3, .slice ea el ecc, .slice eo lo co, .slice (some ⟨eb, ef, none⟩) 1 ec]) ∧
    (w'.cell? ⟨eb, ef, none⟩ = some c0 ∧ w'.cell? ⟨eb, ef + 1, none⟩ = some c1 ∧ w'.cell? ⟨eb, ef + 2, none⟩ = some c2 ∧ w'.cell? ⟨eb, ef + 3, none⟩ = some c3) ∧ (∀ u ∈ [c0, c1, c2, c3], Value.oneCell' u = true) ∧ ArrOn (fun g => w.heap.size ≤ g) w' (.agg #[c0, c1, c2, c3]) A ∧ Below w.heap.size w w' := by
  obtain ⟨c0, c1, c2, c3, rfl, _, hO, hb⟩ := h
  rw [ArrOn] at hO
  obtain ⟨sa, sc, na, nc, ia, ic, hv, -, -, -, -, -, b, off, ha, hc⟩ := hO
  have e := (ha (by simp)).1
  subst e
  rw [ArrsOn] at hc
  obtain ⟨⟨d0, d1, d2, d3, hd, hA⟩, -⟩ := hc
  have hA' := hA
  obtain ⟨k, sh, nu, it⟩ := A
  rw [ArrOn] at hA
  obtain ⟨_, _, _, _, _, _, hv2, -⟩ := hA
  simp only [Value.agg.injEq, Array.mk.injEq, List.cons.injEq, and_true] at hv2
  obtain ⟨rfl, rfl, rfl, rfl⟩ := hv2
  refine ⟨sa, _, sc, na, _, nc, b, off, ic, _, _, _, _, by rw [hv]; rfl, hd, ?_, hA', hb⟩
  intro u hu
  simp only [List.mem_cons, List.not_mem_nil, or_false] at hu
  rcases hu with rfl | rfl | rfl | rfl <;> rfl
theorem of_quads {W0 wr w1 w2 : World} {bx n g cap : Nat} {k : Int} {sh : List Int} {c2 c3 v d0 d1 d2 d3 x0 x1 x2 x3 : Value} {qs : List Value} {l : List Arr} {A : Arr} (h : OInv W0 wr bx k sh c2 c3 v 33 4 n qs) (b1 : Below wr.heap.size wr w1) (P : Put1 w1 w2 (bx + 1) 33 4 n v qs [x0, x1, x2, x3] g cap)
    (hq : Quads (Far W0 bx v) wr qs l) (hX : ArrOn (fun g => wr.heap.size ≤ g) w1 (.agg #[x0, x1, x2, x3]) A) :
    Quads (Far W0 bx (.slice (some ⟨g, 0, none⟩) (n + 1) cap)) ((((w2.setCell ⟨bx, 0, none⟩ d0).setCell ⟨bx, 1, none⟩ d1).setCell ⟨bx, 2, none⟩ d2).setCell ⟨bx, 3, none⟩ d3) (qs ++ [x0, x1, x2, x3]) (l ++ [A]) := by
  obtain ⟨k1, k2⟩ := of_kept (d0 := d0) (d1 := d1) (d2 := d2) (d3 := d3) h b1 P
  exact (hq.keep k1).snoc (hX.keep k2)
theorem of_box_out {W0 wr : World} {bx n B : Nat} {sh : List Int} {a2 : Value} {qs : List Value} {l : List Arr} {a1 va : Option Addr} {c1 vl vc : Nat} (h : OInv W0 wr bx 3 sh a2 (.slice va vl vc) (.slice va vl vc) 33 4 n qs) (hq : Quads (Far W0 bx (.slice va vl vc)) wr qs l) (hl : l.length = n) (hB : B < W0.heap.size)
    (i1 : IntsOn (Far W0 bx (.slice va vl vc)) wr a1 c1 sh) :
    ArrOn (fun g => B < g) wr (.agg #[.int .i64 3, .slice a1 sh.length c1, .slice none 0 0, .slice va vl vc]) (.mk 3 sh [] l) := by
  subst hl
  have own := h.own
  have hbx := h.bxl
  have keepF : ∀ b, Far W0 bx (.slice va vl vc) b → b < wr.heap.size → B < b ∧ ∀ o, wr.cell? ⟨b, o, none⟩ = wr.cell? ⟨b, o, none⟩ := fun b hF _ => ⟨by have := hF.1; omega, fun _ => rfl⟩
  rw [ArrOn]
  have own' := own
  rcases own'.2 with ⟨hv, h0⟩ | ⟨g, cap, cur, hv, hg, hh, hnc, hcm, hcs, htake⟩
  · have hl : l = [] := List.eq_nil_of_length_eq_zero h0
    subst hl
    rw [hv]
    exact ⟨a1, c1, none, 0, none, 0, rfl, by decide, i1.keep keepF, ⟨ints_nil wr, fun g => absurd rfl g⟩, Nat.le_refl _, by decide, 0, 0, fun g => absurd rfl g, by rw [ArrsOn]; trivial⟩
  · rw [hv] at own ⊢
    refine ⟨a1, c1, none, 0, some ⟨g, 0, none⟩, cap, rfl, by decide, i1.keep keepF, ⟨ints_nil wr, fun g => absurd rfl g⟩, hnc, by unfold maxLen at hcm; omega, g, 0, fun _ => ⟨rfl, by omega⟩, ?_⟩
    refine (hq.keep keepF).arrs fun i hi => ?_
    rw [Nat.zero_add, own.cellAt i (by rw [own.1] at hi; exact hi)]
    simp [hi]
theorem cyc_take {α : Type} (l : List α) (z : α) (m : Nat) : ∀ n, m ≤ n → (cyc l z n).take m = cyc l z m := by
  intro n hn
  rw [cyc, cyc, ← List.map_take, List.take_range, Nat.min_eq_left hn]
theorem sumW_cyc (l : List Arr) (z : Arr) (m n : Nat) (h : m ≤ n) : sumW (cyc l z m) ≤ sumW (cyc l z n) := by
  rw [← cyc_take l z m n h]; exact sumW_take _ _

end Go.Proofs.Ytekbdiniibmhgaa.Shape

namespace Go.Proofs.Ytekbdiniibmhgaa.Shape
open Go.RowKit

theorem kind_right {k : Int} {sh nu : List Int} {it : List Arr} (h : rightE (.mk k sh nu it) = 0) : k = 1 ∨ k = 2 ∨ k = 3 := by
  by_cases hb : k < 1 ∨ 3 < k
  · rw [rightE, chk_kind hb] at h; cases h
  · omega
theorem ofA_box {sh : List Int} {F : Arr} {gs gn : List Int} {gi : List Arr} {w w' : World} {e : Ending} (hE : rightE F = 0) (hD : dimsE sh = 0) (hs : srcA F = .mk 3 gs gn gi) (h : OfBox sh gi w e w') : GiveNewE (ofA sh F).1 (ofA sh F).2 w e w' := by
  unfold OfBox at h
  rw [ofA, if_pos hE, if_pos hD, hs, if_pos (show (Arr.mk 3 gs gn gi).kind = 3 from rfl)]
  show GiveNewE (if pr sh + sumW (cyc gi zeroA (pr sh).toNat) ≤ 262144 then _ else _ : Arr × Int).1 (if pr sh + sumW (cyc gi zeroA (pr sh).toNat) ≤ 262144 then _ else _ : Arr × Int).2 w e w'
  split at h
  · rename_i hc; rw [if_pos hc]; exact h
  · rename_i hc; rw [if_neg hc]; exact h
theorem ofA_num {sh : List Int} {F : Arr} {k : Int} {gs gn : List Int} {gi : List Arr} (hE : rightE F = 0) (hD : dimsE sh = 0) (hs : srcA F = .mk k gs gn gi) (hk : k ≠ 3) : ofA sh F = (.mk k sh (cyc gn 0 (pr sh).toNat) [], 0) := by
  rw [ofA, if_pos hE, if_pos hD, hs, if_neg (show ¬ (Arr.mk k gs gn gi).kind = 3 from hk)]; rfl
end Go.Proofs.Ytekbdiniibmhgaa.Shape

namespace Go.Proofs.Ytekbdiniibmhgaa.Shape
open Go.RowKit

mutual
theorem eqA_refl : ∀ A, eqA A A = true
  | .mk k sh nu it => by
    have h := eqL_refl it
    rw [eqA, h]; simp [sameB]
theorem eqL_refl : ∀ l, eqL l l = true
  | [] => by rw [eqL]
  | A :: r => by rw [eqL, eqA_refl A, eqL_refl r]; rfl
end
theorem sameRX {v v2 : Value} {A : Arr} {w : World} (h : ArrAt w v A) (g : ArrAt w v2 A) : Calls Try.prog 16 #[v, v2] w fun e w' => e = .returned (.bool true) ∧ Below w.heap.size w w' := by
  have := sameR3 v v2 A A w h g
  rw [eqA_refl] at this
  exact this
theorem GiveNewE.form {A : Arr} {er : Int} {w w' : World} {e : Ending} (h : GiveNewE A er w e w') : ∃ k sa ls sc na ln nc ia li ic, e = .returned (.tuple #[.agg #[.int .i64 k, .slice sa ls sc, .slice na ln nc, .slice ia li ic], .int .i64 er]) ∧
    ArrAt w' (.agg #[.int .i64 k, .slice sa ls sc, .slice na ln nc, .slice ia li ic]) A ∧ Below w.heap.size w w' := by
  obtain ⟨c0, c1, c2, c3, rfl, hg⟩ := h
  obtain ⟨k, sa, ls, sc, na, ln, nc, ia, li, ic, hv, hO, hb⟩ := hg.form
  simp only [Ending.returned.injEq] at hv
  exact ⟨k, sa, ls, sc, na, ln, nc, ia, li, ic, by rw [hv], hO.at, hb⟩
end Go.Proofs.Ytekbdiniibmhgaa.Shape
