/-
  Layer 5: bytes in lists, as layer 2's Show has them (the same lemmas, without the reference of layer 2, whose names meet those of layer 3).
  Layer 5: bytes gathered in a list of one's own.
  Layer 5: the reference's hex and char.
  Layer 5: the reference's quoted and dims.
  Layer 5: the reference's elements.
-/
import Derived.Test.YtghmbmjikkdbnaaGreatDoorCd1
import Derived.OwnWalk
import Derived.Below
import Derived.Handy
import Derived.Laws.IdiomStrings
import Derived.Lib.AppendStr
import Derived.Deep.RegionHeld3
import Derived.Test.YtghmbmjikkdbnaaGreatDoorCd6
import Derived.Test.YtghmbmjikkdbnaaGreatDoorCd5
namespace Go.Proofs.YtghmbmjikkdbnaaGreatDoor.Shape
open Go.RowKit Go.Proofs.YtghmbmjikkdbnaaGreatDoor.Num
set_option linter.unusedVariables false
set_option maxRecDepth 100000
def bc (L : List UInt8) : List Value := L.map (fun b => Value.int .u8 (b.toNat : Int))
theorem byteInfo : (Tryz.prog.info? 5).map (fun i => (i.zero, i.size, i.bytes)) = some (some (.int .u8 0), 1, 1) := by kernel_rfl
/-- text = append(text, c) -/
theorem wpList_append_byte {ops : Array Oper} {rest : List Oper} {o : Oper} {a : Act} {w : World} {Q : Exit → Act → World → Prop} (hgd : o.guard = none) (s x : Operand)
    (ho : o.op = .call { callee := .builtin .append, args := #[s, x], argTypes := #[90, 90] }) (w0 W : World) (c : Int) (hw : w = W.alloc (.cells #[.int .u8 c] 5))
    (v : Value) (hs : a.eval s = v) (L : List UInt8) (hown : W.ownsRow w0.heap.size 5 1 v L.length (bc L)) (hbel : Below w0.heap.size w0 W)
    (b : UInt8) (hc : c = b.toNat) (hx : a.eval x = .slice (some ⟨W.heap.size, 0, none⟩) 1 1) (hl : L.length ≤ 100000000)
    (h : ∀ v' w', w'.ownsRow w0.heap.size 5 1 v' (L ++ [b]).length (bc (L ++ [b])) → Below w0.heap.size w0 w' → wpList Tryz.prog ops Q rest (a.put o.dst v') w') :
    wpList Tryz.prog ops Q (o :: rest) a w := by
  subst hw; subst hc
  obtain ⟨i0, hi, hz0, hz1, hz2⟩ := info_parts byteInfo
  have hsz := hbel.size
  refine wpList_append_own _ hgd _ _ 90 ho w0.heap.size 5 i0 (.int .u8 0) 1 1 Tryz.underlying90 hi hz0 hz1 hz2 rfl (by decide) v L.length (bc L) hs (hown.alloc _) ⟨W.heap.size, 0, none⟩ 1 1 [.int .u8 (b.toNat : Int)] hx rfl ?_ ?_ (by unfold maxLen; omega) (by omega) (by simp; omega) ?_
  · intro j u hj
    match j, hj with
    | 0, hj => simp at hj; subst hj; simp [Addr.add]
  · intro u hu; simp at hu; subst hu; rfl
  · intro v' w' hown' hgrow _
    refine h v' w' ?_ ((hbel.alloc hbel.size _).grown hgrow (by simp; omega) (fun j hj => (hown.lt j hj).1))
    have e1 : (L ++ [b]).length = L.length + 1 := by simp
    have e2 : bc (L ++ [b]) = bc L ++ [.int .u8 (b.toNat : Int)] := by simp [bc]
    rw [e1, e2]; exact hown'
/-- string(text) -/
theorem conv_text {w : World} {base : Nat} {v : Value} {L : List UInt8} (h : w.ownsRow base 5 1 v L.length (bc L)) :
    (convert 90 9 v).run Tryz.prog w = .ok (.string ⟨L.toArray⟩) w := by
  have h' := h
  rcases h'.2 with ⟨rfl, h0⟩ | ⟨g, cap, cur, rfl, hg, hh, hnc, hcm, hcs, htake⟩
  · have hx : L = [] := List.eq_nil_of_length_eq_zero h0
    subst hx
    exact (by kernel_rfl : (convert 90 9 (.slice none 0 0)).run Tryz.prog w = .ok (.string ⟨#[]⟩) w)
  · refine run_convert_bytes_back w 90 9 5 ⟨g, 0, none⟩ cap L Tryz.underlying90 Tryz.underlying5 Tryz.underlying9 (fun j hj => ?_)
    rw [add_plain, Nat.zero_add, h.cellAt j (by omega)]
    simp [bc, hj]
theorem jn_step {xs : List Int} {k : Nat} (hk : k < xs.length) (h0 : 0 < k) : jn (xs.take (k + 1)) = jn (xs.take k) ++ 32 :: shL xs[k] := by
  rw [take_snoc xs k hk, jn_snoc _ _ (fun e => by
    have : (xs.take k).length = 0 := by rw [e]; rfl
    rw [List.length_take] at this; omega)]
theorem jn_first {xs : List Int} (hk : 0 < xs.length) : jn (xs.take (0 + 1)) = shL xs[0] := by
  rw [take_snoc xs 0 hk]; exact jn_one _
theorem jn_len (xs : List Int) (k : Nat) (h : ∀ x ∈ xs, -9223372036854775808 ≤ x ∧ x ≤ 9223372036854775807) (hs : xs.length ≤ 2000000) : (jn (xs.take k)).length ≤ 42000000 := by
  have h1 := jS_size (xs.take k) (fun x hx => h x (List.mem_of_mem_take hx))
  have h2 : (jS (xs.take k)).size = (jn (xs.take k)).length := by simp [jS, ByteArray.size]
  rw [h2, List.length_take] at h1
  omega
end Go.Proofs.YtghmbmjikkdbnaaGreatDoor.Shape

namespace Go.Proofs.YtghmbmjikkdbnaaGreatDoor.Shape
open Go.RowKit Go.Proofs.YtghmbmjikkdbnaaGreatDoor.Num
set_option linter.unusedVariables false
set_option maxRecDepth 100000
/-- v holds the bytes L in a block of its own, at or above B. -/
def OB (w : World) (B : Nat) (v : Value) (L : List UInt8) : Prop := w.ownsRow B 5 1 v L.length (bc L)
theorem OB.lit (w : World) (cs : Array Value) (L : List UInt8) (hc : cs = (bc L).toArray) (hl : L.length ≤ 1000) : OB (w.alloc (.cells cs 5)) w.heap.size (.slice (some ⟨w.heap.size, 0, none⟩) L.length L.length) L := by
  subst hc
  have h := World.ownsRow_lit (base := w.heap.size) (e := 5) (size := 1) w (bc L).toArray L.length (Nat.le_refl _) (by unfold maxLen; omega) (by simp [bc])
  exact h
theorem OB.below {w w' : World} {B : Nat} {v : Value} {L : List UInt8} (h : OB w B v L) (hb : Below w.heap.size w w') : OB w' B v L := by
  refine ⟨h.1, ?_⟩
  rcases h.2 with h | ⟨g, cap, cur, hv, hg, hh, r⟩
  · exact Or.inl h
  · exact Or.inr ⟨g, cap, cur, hv, hg, (hb.block g (Array.getElem?_eq_some_iff.1 hh).1).trans hh, r⟩
end Go.Proofs.YtghmbmjikkdbnaaGreatDoor.Shape

namespace Go.Proofs.YtghmbmjikkdbnaaGreatDoor.Shape
open Go.RowKit Go.Proofs.YtghmbmjikkdbnaaGreatDoor.Num
set_option linter.unusedVariables false
def chB (c q : Int) : ByteArray := ⟨(chS c q).toArray⟩
end Go.Proofs.YtghmbmjikkdbnaaGreatDoor.Shape

namespace Go.Proofs.YtghmbmjikkdbnaaGreatDoor.Shape
open Go.RowKit Go.Proofs.YtghmbmjikkdbnaaGreatDoor.Num
set_option linter.unusedVariables false
theorem flat_len (f : Int → List UInt8) (m : Nat) : ∀ (l : List Int), (∀ x ∈ l, (f x).length ≤ m) → ((l.map f).flatten).length ≤ m * l.length
  | [], _ => by simp
  | x :: r, h => by
    have h1 := h x (by simp)
    have h2 := flat_len f m r (fun y hy => h y (by simp [hy]))
    simp only [List.map_cons, List.flatten_cons, List.length_append, List.length_cons]
    rw [Nat.mul_succ]; omega
theorem shL_len {x : Int} (h1 : -9223372036854775808 ≤ x) (h2 : x ≤ 9223372036854775807) : (shL x).length ≤ 20 := by
  have := Num.shS_size x h1 h2
  unfold Num.shS at this
  simpa [ByteArray.size] using this
end Go.Proofs.YtghmbmjikkdbnaaGreatDoor.Shape

namespace Go.Proofs.YtghmbmjikkdbnaaGreatDoor.Shape
open Go.RowKit Go.Proofs.YtghmbmjikkdbnaaGreatDoor.Num
set_option linter.unusedVariables false
theorem blankS_snoc (x : List UInt8) : ∀ {l : List (List UInt8)}, l ≠ [] → blankS (l ++ [x]) = blankS l ++ 32 :: x
  | [], h => absurd rfl h
  | y :: r, _ => by simp [blankS]
theorem jt_blank : ∀ (r : List Int), jn.jt r = (r.map fun y => 32 :: shL y).flatten
  | [] => rfl
  | x :: r => by rw [jn.jt, jt_blank r]; simp
theorem jn_blank (xs : List Int) : jn xs = blankS (xs.map shL) := by
  cases xs with
  | nil => rfl
  | cons x r => rw [jn, jt_blank, List.map_cons, blankS, List.map_map]; rfl
/-- A boxed element of a strand. -/
def bx (A : Arr) : List UInt8 := 40 :: ((98 :: 111 :: 120 :: 32 :: litS A) ++ [41])
def litB (A : Arr) : ByteArray := ⟨(litS A).toArray⟩
theorem blank_len (m : Nat) : ∀ (l : List (List UInt8)), (∀ x ∈ l, x.length ≤ m) → (blankS l).length ≤ (m + 1) * l.length
  | [], _ => by simp [blankS]
  | y :: r, h => by
    have h1 := h y (by simp)
    have h2 : ∀ (s : List (List UInt8)), (∀ x ∈ s, x.length ≤ m) → ((s.map fun y => 32 :: y).flatten).length ≤ (m + 1) * s.length := by
      intro s
      induction s with
      | nil => intro _; simp
      | cons z s ih =>
        intro hs
        have h3 := hs z (by simp)
        have h4 := ih (fun x hx => hs x (by simp [hx]))
        simp only [List.map_cons, List.flatten_cons, List.length_append, List.length_cons]
        rw [Nat.mul_succ]; omega
    have h5 := h2 r (fun x hx => h x (by simp [hx]))
    simp only [blankS, List.length_append, List.length_cons]
    rw [Nat.mul_succ]; omega
end Go.Proofs.YtghmbmjikkdbnaaGreatDoor.Shape
