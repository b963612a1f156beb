/-
  Layer 5: what a valid array of few elements is, for its literal: its parts, and how long the literal is.
  Layer 5: the builder of a text, what writing leaves, and what lies apart from it.
  Layer 5: the program's writeShort and writeQuoted. (Written by wip/gen/format-w.py.)
  Layer 5: the program's writeScalar. (Written by wip/gen/format-p1.py.)
  Layer 5: the program's writeVector. (Written by wip/gen/format-p2.py.)
  Layer 5: the program's Fill of a boxed array, in memory of its own that is no row of bytes. (Written by wip/gen/format-fill.py out of wip/array's texts.)
  Layer 5: the program's shape.Show, as layer 2 has it (without the reference of layer 2). (Written by wip/gen/format-shw.py.)
  Layer 5: the program's writeLiteral. (Written by wip/gen/format-p3.py.)
  Layer 5: the program's writeLiteral: its ways. (Written by wip/gen/format-p3.py.)
  Layer 5: the program's writeLiteral: its ways. (Written by wip/gen/format-p3.py.)
  Layer 5: the program's literal and Literal, at arrays of few elements.
-/
import Derived.Test.YtngcahaidlgkfaaDoorFmGA
import Derived.Test.YtngcahaidlgkfaaDoorArrSame
import Derived.Test.YtngcahaidlgkfaaDoorShelf
import Derived.Test.YtngcahaidlgkfaaDoorTokFmt
import Derived.Test.YtngcahaidlgkfaaDoorArrOn
import Derived.Lib.OthersKept
import Derived.Lib.Hide
import Derived.Test.YtngcahaidlgkfaaDoorNumShowP
import Derived.Test.YtngcahaidlgkfaaDoorArrP1
import Derived.Test.YtngcahaidlgkfaaDoorArrP9
import Derived.WalkMore
import Derived.Deep.RegionHeld3
import Derived.Deep.DeepCutAuto
import Derived.Test.YtngcahaidlgkfaaDoorArrP4
namespace Go.Proofs.YtngcahaidlgkfaaDoor.Shape
open Go.RowKit Go.Proofs.YtngcahaidlgkfaaDoor.Num
set_option linter.unusedVariables false
set_option linter.unusedSimpArgs false
set_option maxRecDepth 100000

theorem chkL_all : ∀ (l : List Arr) (d e : Int), chkL d l = some e → ∀ j (hj : j < l.length), (chk l[j]).1 = 0
  | [], d, e, h, j, hj => absurd hj (by simp)
  | A :: r, d, e, h, j, hj => by
    rw [chkL] at h
    split at h
    · cases h
    · rename_i h0
      cases j with
      | zero => simpa using h0
      | succ j =>
        have := chkL_all r _ e h j (by simpa using hj)
        simpa using this
/-- The parts of a valid array. -/
structure Val (k : Int) (sh nu : List Int) (it : List Arr) : Prop where
  kind : 1 ≤ k ∧ k ≤ 3
  dims : dimsE sh = 0
  size : (aSize (.mk k sh nu it) : Int) = pr sh
  plain : k ≠ 3 → it = []
  boxed : k = 3 → nu = []
  elems : ∀ x ∈ nu, elemB k x = true
  items : ∀ j (hj : j < it.length), rightE it[j] = 0
theorem val_of {k : Int} {sh nu : List Int} {it : List Arr} (h : rightE (.mk k sh nu it) = 0) : Val k sh nu it := by
  rw [rightE, chk] at h
  split at h
  · simp at h
  rename_i hk
  split at h
  · rename_i hd; exact absurd h hd
  rename_i hd
  split at h
  · simp at h
  rename_i hl
  split at h
  · simp at h
  rename_i he
  split at h
  · simp at h
  rename_i d hc
  have ho : other k nu it = 0 := by omega
  refine ⟨by omega, by simpa using hd, Classical.byContradiction fun q => hl (Or.inl q), fun q => ?_, fun q => ?_, fun x hx => ?_, fun j hj => chkL_all it 0 d hc j hj⟩
  · rw [other, if_neg q] at ho; exact List.eq_nil_of_length_eq_zero ho
  · rw [other, if_pos q] at ho; exact List.eq_nil_of_length_eq_zero ho
  · have ha : nu.all (elemB k) = true := by simpa using he
    exact List.all_eq_true.1 ha x hx
theorem dims_parts {sh : List Int} (h : dimsE sh = 0) : sh.length ≤ 8 ∧ NN sh ∧ nz sh ≤ 65536 := by
  unfold dimsE at h
  split at h
  · cases h
  split at h
  · split at h
    · exact ⟨by omega, by assumption, by assumption⟩
    · cases h
  · cases h
theorem nz_one : ∀ {sh : List Int}, NN sh → 1 ≤ nz sh
  | [], _ => by rw [nz]; decide
  | x :: r, h => by
    have h1 := nz_one (sh := r) fun y hy => h y (List.mem_cons_of_mem _ hy)
    have h0 : 0 ≤ x := h x (by simp)
    rw [nz]
    split
    · rw [Int.one_mul]; exact h1
    · exact Int.le_trans (by omega : (1 : Int) ≤ 1 * 1) (Int.mul_le_mul (by omega) h1 (by decide) h0)
theorem nz_ge : ∀ {sh : List Int}, NN sh → ∀ x ∈ sh, x ≤ nz sh
  | [], _, x, hx => by cases hx
  | y :: r, h, x, hx => by
    have hr : NN r := fun z hz => h z (List.mem_cons_of_mem _ hz)
    have h1 := nz_one hr
    have h0 : 0 ≤ y := h y (by simp)
    rw [nz]
    rcases List.mem_cons.1 hx with rfl | hx
    · split
      · rename_i e; rw [e, Int.one_mul]; omega
      · exact Int.le_trans (by rw [Int.mul_one]; exact Int.le_refl _) (Int.mul_le_mul_of_nonneg_left h1 h0)
    · have h2 := nz_ge hr x hx
      split
      · rw [Int.one_mul]; exact h2
      · have : 1 * nz r ≤ y * nz r := Int.mul_le_mul_of_nonneg_right (by omega) (by omega)
        rw [Int.one_mul] at this
        omega
theorem jn_short {sh : List Int} (h : dimsE sh = 0) : (jn sh).length ≤ 168 := by
  obtain ⟨h1, h2, h3⟩ := dims_parts h
  rw [jn_blank]
  have := blank_len 20 (sh.map shL) (fun x hx => by
    obtain ⟨y, hy, rfl⟩ := List.mem_map.1 hx
    have a := h2 y hy
    have b := nz_ge h2 y hy
    exact shL_len (by omega) (by omega))
  rw [List.length_map] at this
  omega
/-- The lengths of texts, with one more for each. -/
def totL : List (List UInt8) → Nat
  | [] => 0
  | x :: r => x.length + 1 + totL r
theorem blank_tot : ∀ (l : List (List UInt8)), (blankS l).length ≤ totL l
  | [] => by simp [blankS, totL]
  | x :: r => by
    have go : ∀ (r : List (List UInt8)), ((r.map fun y => 32 :: y).flatten).length ≤ totL r := fun r => by
      induction r with
      | nil => simp [totL]
      | cons y r ih => rw [List.map_cons, List.flatten_cons, List.length_append, totL, List.length_cons]; omega
    have := go r
    rw [blankS, List.length_append, totL]; omega
theorem lits_tot : ∀ (it : List Arr), (∀ j (hj : j < it.length), (litS it[j]).length ≤ 220 + 250 * (wt it[j]).toNat) → totL ((litsS it).map fun t => 40 :: (t ++ [41])) ≤ 240 * it.length + 250 * (sumW it).toNat
  | [], _ => by simp [litsS, totL]
  | A :: r, h => by
    have h0 := h 0 (by simp)
    have h1 := lits_tot r fun j hj => by
      have := h (j + 1) (by simpa using hj)
      simpa using this
    have w0 := wt_nn A
    have w1 := sumW_nn r
    simp only [List.getElem_cons_zero] at h0
    rw [litsS, List.map_cons, totL, sumW, List.length_cons, List.length_cons, List.length_append]
    simp only [List.length_cons, List.length_nil]
    omega
theorem sumW_ge : ∀ {it : List Arr} {j : Nat} (hj : j < it.length), wt it[j] ≤ sumW it
  | [], j, hj => absurd hj (by simp)
  | A :: r, 0, _ => by have := sumW_nn r; simp only [List.getElem_cons_zero, sumW]; omega
  | A :: r, j + 1, hj => by
    have := sumW_ge (it := r) (j := j) (by simpa using hj)
    have := wt_nn A
    simp only [List.getElem_cons_succ, sumW]; omega
theorem wt_few {k : Int} {sh nu : List Int} {it : List Arr} (h : wt (.mk k sh nu it) ≤ 400) : wt (.mk k sh nu it) = (aSize (.mk k sh nu it) : Int) + (if k = 3 then sumW it else 0) := by
  rw [wt] at h ⊢
  omega
theorem fill_len (k : Int) : (fillT k).length ≤ 15 := by
  unfold fillT
  split
  · decide
  split
  · decide
  · decide
theorem ints_tot : ∀ (nu : List Int), (∀ x ∈ nu, elemB 1 x = true) → totL (nu.map shL) ≤ 21 * nu.length
  | [], _ => by simp [totL]
  | x :: r, h => by
    have h1 := ints_tot r fun y hy => h y (List.mem_cons_of_mem _ hy)
    have h0 := h x (by simp)
    have hb : numB x = true := by simpa [elemB] using h0
    have hb2 := of_decide_eq_true hb
    have := shL_len (x := x) (by omega) (by omega)
    rw [List.map_cons, totL, List.length_cons]; omega
theorem chars_bd {nu : List Int} (h : ∀ x ∈ nu, elemB 2 x = true) : ∀ x ∈ nu, 0 ≤ x ∧ x ≤ 1114111 := fun x hx => by
  have h0 := h x hx
  have hb : runeB x = true := by simpa [elemB] using h0
  have hb2 := of_decide_eq_true hb
  omega
theorem quo_tot : ∀ (nu : List Int), (∀ x ∈ nu, 0 ≤ x ∧ x ≤ 1114111) → ((nu.map fun c => chS c 34).flatten).length ≤ 12 * nu.length
  | [], _ => by simp
  | x :: r, h => by
    have h1 := quo_tot r fun y hy => h y (List.mem_cons_of_mem _ hy)
    have h0 := chS_len x 34 (h x (by simp)).2
    rw [List.map_cons, List.flatten_cons, List.length_append, List.length_cons]; omega
theorem head_le : ∀ (l : List (List UInt8)), (l.headD []).length ≤ totL l
  | [] => by simp [totL]
  | x :: r => by simp [totL]; omega
theorem litT_len {k : Int} {sh nu : List Int} {E : List (List UInt8)} {m : Nat} (hjn : (jn sh).length ≤ 168) (hfl : (fillT k).length ≤ 15) (h1 : (vecS k nu E).length ≤ 2 + m) (h2 : (E.headD []).length ≤ 20 + m) : (litT k sh nu E).length ≤ 220 + m := by
  have hres : reS.length = 9 := rfl
  unfold litT
  generalize vecS k nu E = V1 at *
  generalize E.headD [] = V2 at *
  by_cases h0 : sh.length = 0
  · rw [if_pos h0]; omega
  rw [if_neg h0]
  by_cases h1 : sh.length = 1 ∧ (k = 2 ∨ 2 ≤ E.length)
  · rw [if_pos h1]; omega
  rw [if_neg h1, List.length_append, List.length_append]
  by_cases h2 : E.length = 0
  · rw [if_pos h2]; omega
  rw [if_neg h2]
  by_cases h3 : E.length = 1
  · rw [if_pos h3]; omega
  · rw [if_neg h3]; omega
/-- How long a literal is. -/
theorem lit_len (n : Nat) : ∀ (A : Arr), rk A ≤ n → rightE A = 0 → wt A ≤ 400 → (litS A).length ≤ 220 + 250 * (wt A).toNat := by
  induction n with
  | zero => intro A h; exact absurd h (by obtain ⟨k, sh, nu, it⟩ := A; rw [rk]; omega)
  | succ n ih =>
    intro A hrk hx hw
    obtain ⟨k, sh, nu, it⟩ := A
    have V := val_of hx
    have hwp := wt_few hw
    have hel := els_len (A := .mk k sh nu it) (by simpa [Arr.kind] using V.kind)
    obtain ⟨N, hN⟩ : ∃ N, aSize (.mk k sh nu it) = N := ⟨_, rfl⟩
    rw [hN] at hwp hel
    have hsw := sumW_nn it
    have hjn := jn_short V.dims
    have hfl := fill_len k
    have hk := V.kind
    -- what the elements take
    have hE : (vecS k nu (elsT (.mk k sh nu it))).length ≤ 2 + 250 * (wt (.mk k sh nu it)).toNat ∧ ((elsT (.mk k sh nu it)).headD []).length ≤ 20 + 250 * (wt (.mk k sh nu it)).toNat := by
      rcases (by omega : k = 1 ∨ k = 2 ∨ k = 3) with rfl | rfl | rfl
      · have hn : N = nu.length := by rw [← hN]; exact size12 (A := .mk 1 sh nu it) (by simp [Arr.kind]) (by simp [Arr.kind])
        have e : elsT (.mk 1 sh nu it) = nu.map shL := by simp [elsT, Arr.kind, Arr.nums]
        have ev : vecS 1 nu (nu.map shL) = blankS (nu.map shL) := by rw [vecS, if_neg (by decide), if_neg (by decide)]
        have h1 := ints_tot nu V.elems
        have h2 := blank_tot (nu.map shL)
        have h3 := head_le (nu.map shL)
        rw [if_neg (by decide)] at hwp
        rw [e, ev]
        omega
      · have hn : N = nu.length := by rw [← hN]; exact size12 (A := .mk 2 sh nu it) (by simp [Arr.kind]) (by simp [Arr.kind])
        have ev : vecS 2 nu (elsT (.mk 2 sh nu it)) = quoS nu := by rw [vecS, if_pos rfl]
        have hb := chars_bd V.elems
        have h1 := quo_tot nu hb
        rw [if_neg (by decide)] at hwp
        rw [ev]
        refine ⟨by rw [quoS, List.length_cons, List.length_append]; simp only [List.length_cons, List.length_nil]; omega, ?_⟩
        have e : elsT (.mk 2 sh nu it) = nu.map fun x => 39 :: (chS x 39 ++ [39]) := by simp [elsT, Arr.kind, Arr.nums]
        rw [e]
        cases nu with
        | nil => simp
        | cons x r =>
          have := chS_len x 39 (hb x (by simp)).2
          simp only [List.map_cons, List.headD_cons, List.length_cons, List.length_append, List.length_nil]
          omega
      · have hn : N = it.length := by rw [← hN]; exact size3 (A := .mk 3 sh nu it) rfl
        have e : elsT (.mk 3 sh nu it) = litsS it := by simp [elsT, Arr.kind, Arr.items]
        have ev : vecS 3 nu (litsS it) = blankS ((litsS it).map fun t => 40 :: (t ++ [41])) := by rw [vecS, if_neg (by decide), if_pos rfl]
        rw [if_pos rfl] at hwp
        have hB : ∀ j (hj : j < it.length), (litS it[j]).length ≤ 220 + 250 * (wt it[j]).toNat := fun j hj => by
          have hj2 := sumW_ge hj
          exact ih _ (by have := rk_item (k := 3) (sh := sh) (nu := nu) hj; omega) (V.items j hj) (by omega)
        have h1 := lits_tot it hB
        have h2 := blank_tot ((litsS it).map fun t => 40 :: (t ++ [41]))
        rw [e, ev]
        refine ⟨by omega, ?_⟩
        cases it with
        | nil => simp [litsS]
        | cons B r =>
          have := hB 0 (by simp)
          have hB0 := sumW_ge (it := B :: r) (j := 0) (by simp)
          have hw0 := wt_nn B
          simp only [List.getElem_cons_zero] at this hB0
          simp only [litsS, List.headD_cons, List.length_cons] at *
          omega
    rw [litS_els]
    show (litT k sh nu (elsT (.mk k sh nu it))).length ≤ _
    exact litT_len hjn hfl hE.1 hE.2
end Go.Proofs.YtngcahaidlgkfaaDoor.Shape

namespace Go.Proofs.YtngcahaidlgkfaaDoor.Shape
open Go.RowKit Go.Proofs.YtngcahaidlgkfaaDoor.Num
set_option linter.unusedVariables false
set_option linter.unusedSimpArgs false
set_option maxRecDepth 100000

/-- A builder (its block is X) that holds the bytes l. -/
def Bld (w : World) (X : Nat) (l : List UInt8) : Prop := Lib.IsBuilderF 52 5 X X (Lib.byteCells l) w
theorem Bld.lt {w : World} {X : Nat} {l : List UInt8} (h : Bld w X l) : X < w.heap.size := h.elim (fun x => x.lt) (fun x => x.lt)
theorem Bld.new (w : World) : Bld (w.alloc (.cells #[.pointer none, .slice none 0 0] 52)) w.heap.size [] :=
  .inl ⟨Nat.le_refl _, _, Tok.heap_alloc_new w _, World.ownsRowF_nil _ _ _ _, by simp [Value.ownBlock]⟩
theorem Bld.below {w w' : World} {X : Nat} {l : List UInt8} (h : Bld w X l) (hb : Below w.heap.size w w') : Bld w' X l := by
  have go : ∀ p, Lib.BuilderAtF 52 5 X X p (Lib.byteCells l) w → Lib.BuilderAtF 52 5 X X p (Lib.byteCells l) w' := fun p h => by
    have hlt := h.lt
    obtain ⟨hB, v, hv, hown, hne⟩ := h
    exact ⟨hB, v, (hb.block X hlt).trans hv, hown.kept (row := none) ⟨hb.os, hb.tape, hb.output, hb.size, fun k hk _ => hb.block k hk⟩ (Classical.em _), hne⟩
  exact h.elim (fun x => .inl (go _ x)) (fun x => .inr (go _ x))
/-- What writing to the builder X leaves: all older blocks, and all that are no rows of bytes. -/
def Kp (X : Nat) (w w' : World) : Prop := Below X w w' ∧ Lib.OthersKept 5 (some X) w w'
theorem Kp.refl (X : Nat) (w : World) : Kp X w w := ⟨Below.refl _ _, Lib.OthersKept.refl _ _ _⟩
theorem Kp.trans {X : Nat} {a b c : World} (h : Kp X a b) (k : Kp X b c) : Kp X a c := ⟨h.1.trans k.1, h.2.trans k.2⟩
theorem okBelow {e : TypeId} {bo : Option Nat} {a w w' : World} (h : Lib.OthersKept e bo a w) (hb : Below w.heap.size w w') : Lib.OthersKept e bo a w' := fun k o hk hn hc => by
  have := h k o hk hn hc
  exact (hb.block k (Array.getElem?_eq_some_iff.1 this).1).trans this
theorem Kp.below {X : Nat} {a w w' : World} (h : Kp X a w) (hX : X ≤ w.heap.size) (hb : Below w.heap.size w w') : Kp X a w' := ⟨h.1.trans (hb.mono hX), okBelow h.2 hb⟩
/-- A block apart from the builder X and its bytes. -/
def Aw (X : Nat) (w : World) (g : Nat) : Prop := g < X ∨ (g ≠ X ∧ ∃ o, w.heap[g]? = some o ∧ ∀ c fz, o ≠ .cells c 5 fz)
theorem cell_same {w w' : World} {g : Nat} (h : w'.heap[g]? = w.heap[g]?) (o : Nat) : w'.cell? ⟨g, o, none⟩ = w.cell? ⟨g, o, none⟩ := by
  simp only [World.cell?, h]
theorem Kp.keep {X : Nat} {w w' : World} (h : Kp X w w') : ∀ g, Aw X w g → g < w.heap.size → Aw X w' g ∧ ∀ o, w'.cell? ⟨g, o, none⟩ = w.cell? ⟨g, o, none⟩ := by
  rintro g (hg | ⟨hn, o, ho, hc⟩) hlt
  · exact ⟨Or.inl hg, cell_same (h.1.block g hg)⟩
  · have := h.2 g o ho (fun e => hn (Option.some.inj e)) hc
    exact ⟨Or.inr ⟨hn, o, this, hc⟩, cell_same (this.trans ho.symm)⟩
/-- An array, a list of ints, apart from the builder X. -/
def AA (X : Nat) (w : World) (v : Value) (A : Arr) : Prop := ArrOn (Aw X w) w v A
def II (X : Nat) (w : World) (a : Option Addr) (c : Nat) (xs : List Int) : Prop := IntsOn (Aw X w) w a c xs
theorem AA.keep {X : Nat} {w w' : World} {v : Value} {A : Arr} (h : AA X w v A) (k : Kp X w w') : AA X w' v A := ArrOn.keep k.keep h
theorem II.keep {X : Nat} {w w' : World} {a : Option Addr} {c : Nat} {xs : List Int} (h : II X w a c xs) (k : Kp X w w') : II X w' a c xs := IntsOn.keep k.keep h
theorem AA.at {X : Nat} {w : World} {v : Value} {A : Arr} (h : AA X w v A) : ArrAt w v A := ArrOn.at h
theorem II.at {X : Nat} {w : World} {a : Option Addr} {c : Nat} {xs : List Int} (h : II X w a c xs) : IntsAt w a c xs := h.1
theorem Aw.old {w : World} {g : Nat} (h : g < w.heap.size) : Aw w.heap.size w g := Or.inl h

theorem encR_eq (c : Nat) : (Utf8.encode (c : Int)).data.toList = Lib.encodeRune (c : Int) := by
  unfold Lib.encodeRune
  by_cases hv : Utf8.valid (c : Int) = true
  · have hv2 : ((0 : Int) ≤ c ∧ (c : Int) < 55296) ∨ ((57344 : Int) ≤ c ∧ (c : Int) ≤ 1114111) := by simpa [Utf8.valid] using hv
    unfold Utf8.encode
    simp only [hv, if_true, Int.toNat_natCast]
    by_cases h1 : c < 128
    · rw [if_pos h1, Lib.encodeRuneZ_one (by omega) (by omega)]
      rfl
    rw [if_neg h1]
    by_cases h2 : c < 2048
    · rw [if_pos h2, Lib.encodeRuneZ_two (by omega) (by omega)]
      simp only [List.map_cons, List.map_nil]
      rw [show (192 + (c : Int) / 64).toNat = 192 + c / 64 by omega, show (128 + (c : Int) % 64).toNat = 128 + c % 64 by omega]
    rw [if_neg h2]
    by_cases h3 : c < 65536
    · rw [if_pos h3, Lib.encodeRuneZ_three (by omega)]
      simp only [List.map_cons, List.map_nil]
      rw [show (224 + (c : Int) / 4096).toNat = 224 + c / 4096 by omega, show (128 + (c : Int) / 64 % 64).toNat = 128 + c / 64 % 64 by omega, show (128 + (c : Int) % 64).toNat = 128 + c % 64 by omega]
    · rw [if_neg h3, Lib.encodeRuneZ_four (by omega) (by omega)]
      simp only [List.map_cons, List.map_nil]
      rw [show (240 + (c : Int) / 262144).toNat = 240 + c / 262144 by omega, show (128 + (c : Int) / 4096 % 64).toNat = 128 + c / 4096 % 64 by omega, show (128 + (c : Int) / 64 % 64).toNat = 128 + c / 64 % 64 by omega, show (128 + (c : Int) % 64).toNat = 128 + c % 64 by omega]
  · have hv2 : ¬ (((0 : Int) ≤ c ∧ (c : Int) < 55296) ∨ ((57344 : Int) ≤ c ∧ (c : Int) ≤ 1114111)) := by simpa [Utf8.valid] using hv
    unfold Utf8.encode
    simp only [hv, Bool.false_eq_true, if_false]
    rw [Lib.encodeRuneZ_bad (by omega)]
    decide
theorem wrR (w : World) (X c : Nat) (l : List UInt8) (hc : c ≤ 1114111) (hl : l.length ≤ 1000000) (h : Bld w X l) :
    Calls Tryd.prog 82 #[.pointer (some ⟨X, 0, none⟩), .int .i32 (c : Int)] w fun e w' => (∃ n, e = .returned (.tuple #[.int .i64 n, .nilIface])) ∧ Bld w' X (l ++ enc (c : Int)) ∧ Kp X w w' := by
  refine (Tryd.Builder_WriteRune_k X X (Lib.byteCells l) (c : Int) (by omega) (by omega) w h (by rw [Lib.byteCells_length]; omega) (Nat.le_of_lt h.lt)).mono ?_
  rintro e w' ⟨rfl, h1, h2, h3⟩
  refine ⟨⟨_, rfl⟩, ?_, h2, h3⟩
  have e : enc (c : Int) = Lib.encodeRune (c : Int) := by
    unfold enc
    exact encR_eq c
  rw [Bld, Lib.byteCells_append, e, Lib.byteCells_encodeRune]
  exact .inr h1
theorem wrS (w : World) (X : Nat) (l : List UInt8) (s : ByteArray) (hs : s.size ≤ 1000000) (hl : l.length ≤ 1000000) (h : Bld w X l) :
    Calls Tryd.prog 48 #[.pointer (some ⟨X, 0, none⟩), .string s] w fun e w' => (∃ n, e = .returned (.tuple #[.int .i64 n, .nilIface])) ∧ Bld w' X (l ++ s.data.toList) ∧ Kp X w w' := by
  refine (Tryd.Builder_WriteString_k X X (Lib.byteCells l) s w h (by rw [Lib.byteCells_length]; omega) (Nat.le_of_lt h.lt)).mono ?_
  rintro e w' ⟨rfl, h1, h2, h3⟩
  refine ⟨⟨_, rfl⟩, ?_, h2, h3⟩
  rw [Bld, Lib.byteCells_append, ← Lib.strCells_eq]
  exact .inr h1
theorem wrL (w : World) (X : Nat) (l L : List UInt8) (hs : L.length ≤ 1000000) (hl : l.length ≤ 1000000) (h : Bld w X l) :
    Calls Tryd.prog 48 #[.pointer (some ⟨X, 0, none⟩), .string ⟨L.toArray⟩] w fun e w' => (∃ n, e = .returned (.tuple #[.int .i64 n, .nilIface])) ∧ Bld w' X (l ++ L) ∧ Kp X w w' := by
  have := wrS w X l ⟨L.toArray⟩ (by simpa [ByteArray.size] using hs) hl h
  simpa using this
theorem wrB (w : World) (X : Nat) (l : List UInt8) (c : UInt8) (hl : l.length ≤ 1000000) (h : Bld w X l) :
    Calls Tryd.prog 71 #[.pointer (some ⟨X, 0, none⟩), .int .u8 (c.toNat : Int)] w fun e w' => e = .returned .nilIface ∧ Bld w' X (l ++ [c]) ∧ Kp X w w' := by
  refine (Tryd.Builder_WriteByte_k X X (Lib.byteCells l) (c.toNat : Int) w h (by rw [Lib.byteCells_length]; omega) (Nat.le_of_lt h.lt)).mono ?_
  rintro e w' ⟨rfl, h1, h2, h3⟩
  refine ⟨rfl, ?_, h2, h3⟩
  rw [Bld, Lib.byteCells_append]
  exact .inr h1
theorem wr92 (w : World) (X : Nat) (l : List UInt8) (hl : l.length ≤ 1000000) (h : Bld w X l) :
    Calls Tryd.prog 71 #[.pointer (some ⟨X, 0, none⟩), .int .u8 92] w fun e w' => e = .returned .nilIface ∧ Bld w' X (l ++ [92]) ∧ Kp X w w' := wrB w X l 92 hl h
theorem wr32 (w : World) (X : Nat) (l : List UInt8) (hl : l.length ≤ 1000000) (h : Bld w X l) :
    Calls Tryd.prog 71 #[.pointer (some ⟨X, 0, none⟩), .int .u8 32] w fun e w' => e = .returned .nilIface ∧ Bld w' X (l ++ [32]) ∧ Kp X w w' := wrB w X l 32 hl h
theorem bldString (w : World) (X : Nat) (l : List UInt8) (h : Bld w X l) :
    Calls Tryd.prog 35 #[.pointer (some ⟨X, 0, none⟩)] w fun e w' => e = .returned (.string ⟨l.toArray⟩) ∧ Below X w w' := by
  refine (Tryd.Builder_String_any_k X X l w h (Nat.le_of_lt h.lt)).mono ?_
  rintro e w' ⟨rfl, -, h2, -⟩
  exact ⟨rfl, h2⟩
theorem hexL_hx (c : Nat) (h : c < 128) : Tok.hexL c = hx c := by
  have h1 : ∀ m, m < 16 → Tok.hx1 m = hd m := fun m hm => by
    unfold Tok.hx1 hd
    rw [Nat.mod_eq_of_lt hm]
    split <;> rfl
  unfold Tok.hexL
  by_cases q : c < 16
  · rw [if_pos q, hx_small q, h1 c q]
  · rw [if_neg q, hx_more q, hx_small (by omega), h1 _ (by omega), h1 _ (by omega), hd_mod]; rfl
/-- What a call that writes leaves. -/
@[reducible] def Wrote (w : World) (X : Nat) (l : List UInt8) (e : Ending) (w' : World) : Prop := e = .returned (.tuple #[]) ∧ Bld w' X l ∧ Kp X w w'
end Go.Proofs.YtngcahaidlgkfaaDoor.Shape

namespace Go.Proofs.YtngcahaidlgkfaaDoor.Shape
open Go.RowKit Go.Proofs.YtngcahaidlgkfaaDoor.Num
set_option linter.unusedVariables false
set_option linter.unusedSimpArgs false

theorem _root_.Go.Proofs.YtngcahaidlgkfaaDoor.Tok.hexL_len' (c : Nat) : (Tok.hexL c).length ≤ 2 := by unfold Tok.hexL; split <;> simp
set_option maxRecDepth 100000 in
set_option maxHeartbeats 4000000 in
theorem ws_10 (q : Int) (w : World) (X : Nat) (l : List UInt8) (hl : l.length ≤ 900000) (hT : Tok.TZ w) (h : Bld w X l) :
    Calls Tryd.prog 83 #[.pointer (some ⟨X, 0, none⟩), .int .i32 q, .int .i32 10] w (Wrote w X (l ++ [92, 110])) := by
  go_enter Tryd.func83, Tryd.ntmps83
  go_wp2_with (go_at_call 48; with_reducible refine (wrL _ X l [92, 110] (by decide) (by omega) h).mono ?_; rintro e1 w1 ⟨⟨n1, rfl⟩, h1, k1⟩)
  refine bodyPost_ret (results_none rfl _ _ _) rfl ?_
  exact ⟨rfl, h1, k1⟩
set_option maxRecDepth 100000 in
set_option maxHeartbeats 4000000 in
theorem ws_9 (q : Int) (w : World) (X : Nat) (l : List UInt8) (hl : l.length ≤ 900000) (hT : Tok.TZ w) (h : Bld w X l) :
    Calls Tryd.prog 83 #[.pointer (some ⟨X, 0, none⟩), .int .i32 q, .int .i32 9] w (Wrote w X (l ++ [92, 116])) := by
  go_enter Tryd.func83, Tryd.ntmps83
  go_wp2_with (go_at_call 48; with_reducible refine (wrL _ X l [92, 116] (by decide) (by omega) h).mono ?_; rintro e1 w1 ⟨⟨n1, rfl⟩, h1, k1⟩)
  refine bodyPost_ret (results_none rfl _ _ _) rfl ?_
  exact ⟨rfl, h1, k1⟩
set_option maxRecDepth 100000 in
set_option maxHeartbeats 4000000 in
theorem ws_13 (q : Int) (w : World) (X : Nat) (l : List UInt8) (hl : l.length ≤ 900000) (hT : Tok.TZ w) (h : Bld w X l) :
    Calls Tryd.prog 83 #[.pointer (some ⟨X, 0, none⟩), .int .i32 q, .int .i32 13] w (Wrote w X (l ++ [92, 114])) := by
  go_enter Tryd.func83, Tryd.ntmps83
  go_wp2_with (go_at_call 48; with_reducible refine (wrL _ X l [92, 114] (by decide) (by omega) h).mono ?_; rintro e1 w1 ⟨⟨n1, rfl⟩, h1, k1⟩)
  refine bodyPost_ret (results_none rfl _ _ _) rfl ?_
  exact ⟨rfl, h1, k1⟩
set_option maxRecDepth 100000 in
set_option maxHeartbeats 4000000 in
theorem ws_92 (q : Nat) (c : Nat) (hc : c ≤ 1114111) (hn : c ≠ 10 ∧ c ≠ 9 ∧ c ≠ 13) (h92 : c = 92) (w : World) (X : Nat) (l : List UInt8) (hl : l.length ≤ 900000) (hT : Tok.TZ w) (h : Bld w X l) :
    Calls Tryd.prog 83 #[.pointer (some ⟨X, 0, none⟩), .int .i32 (q : Int), .int .i32 (c : Int)] w (Wrote w X (l ++ ([92] ++ enc (c : Int)))) := by
  have f1 : ((c : Int) == 10) = false := by simp; omega
  have f2 : ((c : Int) == 9) = false := by simp; omega
  have f3 : ((c : Int) == 13) = false := by simp; omega
  have f7 : ((c : Int) == 92) = true := by simp; omega
  clear h92
  go_enter Tryd.func83, Tryd.ntmps83
  go_wp2_with (first | (go_at_call 71; with_reducible refine (wr92 _ X l (by omega) h).mono ?_; rintro e1 w1 ⟨rfl, h1, k1⟩) | (go_at_call 82; with_reducible refine (wrR _ X c (l ++ [92]) hc (by rw [List.length_append]; simp; omega) h1).mono ?_; rintro e2 w2 ⟨⟨n2, rfl⟩, h2, k2⟩))
  refine bodyPost_ret (results_none rfl _ _ _) rfl ?_
  exact ⟨rfl, by rw [List.append_assoc] at h2; exact h2, k1.trans k2⟩
set_option maxRecDepth 100000 in
set_option maxHeartbeats 4000000 in
theorem ws_q (q : Nat) (c : Nat) (hc : c ≤ 1114111) (hn : c ≠ 10 ∧ c ≠ 9 ∧ c ≠ 13) (h92 : c ≠ 92) (hq : c = q) (w : World) (X : Nat) (l : List UInt8) (hl : l.length ≤ 900000) (hT : Tok.TZ w) (h : Bld w X l) :
    Calls Tryd.prog 83 #[.pointer (some ⟨X, 0, none⟩), .int .i32 (q : Int), .int .i32 (c : Int)] w (Wrote w X (l ++ ([92] ++ enc (c : Int)))) := by
  have f1 : ((c : Int) == 10) = false := by simp; omega
  have f2 : ((c : Int) == 9) = false := by simp; omega
  have f3 : ((c : Int) == 13) = false := by simp; omega
  have f7 : ((c : Int) == 92) = false := by simp; omega
  have f6 : ((c : Int) == (q : Int)) = true := by simp; omega
  clear hq
  go_enter Tryd.func83, Tryd.ntmps83
  go_wp2_with (first | (go_at_call 71; with_reducible refine (wr92 _ X l (by omega) h).mono ?_; rintro e1 w1 ⟨rfl, h1, k1⟩) | (go_at_call 82; with_reducible refine (wrR _ X c (l ++ [92]) hc (by rw [List.length_append]; simp; omega) h1).mono ?_; rintro e2 w2 ⟨⟨n2, rfl⟩, h2, k2⟩))
  refine bodyPost_ret (results_none rfl _ _ _) rfl ?_
  exact ⟨rfl, by rw [List.append_assoc] at h2; exact h2, k1.trans k2⟩
set_option maxRecDepth 100000 in
set_option maxHeartbeats 4000000 in
theorem ws_32 (q : Nat) (c : Nat) (hc : (c < 32 ∧ c ≠ 9 ∧ c ≠ 10 ∧ c ≠ 13) ∨ c = 127) (hn : c ≠ 10 ∧ c ≠ 9 ∧ c ≠ 13) (h92 : c ≠ 92) (hq : c ≠ q) (h32 : c < 32) (w : World) (X : Nat) (l : List UInt8) (hl : l.length ≤ 900000) (hT : Tok.TZ w) (h : Bld w X l) :
    Calls Tryd.prog 83 #[.pointer (some ⟨X, 0, none⟩), .int .i32 (q : Int), .int .i32 (c : Int)] w (Wrote w X (l ++ ([92, 117, 123] ++ Tok.hexL c ++ [125]))) := by
  have hx := Tok.hexL_len' c
  have hxs : (⟨(Tok.hexL c).toArray⟩ : ByteArray).size = (Tok.hexL c).length := rfl
  have hs3 : (⟨#[92, 117, 123]⟩ : ByteArray).size = 3 := rfl
  have hs1 : (⟨#[125]⟩ : ByteArray).size = 1 := rfl
  have hsz : ((⟨#[92, 117, 123]⟩ : ByteArray) ++ ⟨(Tok.hexL c).toArray⟩ ++ ⟨#[125]⟩).size ≤ 1000000 := by rw [ByteArray.size_append, ByteArray.size_append, hxs, hs3, hs1]; omega
  have hout : ((⟨#[92, 117, 123]⟩ : ByteArray) ++ ⟨(Tok.hexL c).toArray⟩ ++ ⟨#[125]⟩).data.toList = [92, 117, 123] ++ Tok.hexL c ++ [125] := by simp [ByteArray.data_append]
  have a1 := fun w => run_string_add_sum (P := Tryd.prog) w ⟨#[92, 117, 123]⟩ ⟨(Tok.hexL c).toArray⟩ (by rw [hxs, hs3]; omega)
  have a2 := fun w => run_string_add_sum (P := Tryd.prog) w (⟨#[92, 117, 123]⟩ ++ ⟨(Tok.hexL c).toArray⟩) ⟨#[125]⟩ (by rw [ByteArray.size_append, hxs, hs3, hs1]; omega)
  clear hxs hs3 hs1 hx
  have f1 : ((c : Int) == 10) = false := by simp; omega
  have f2 : ((c : Int) == 9) = false := by simp; omega
  have f3 : ((c : Int) == 13) = false := by simp; omega
  have f7 : ((c : Int) == 92) = false := by simp; omega
  have f6 : ((c : Int) == (q : Int)) = false := by simp; omega
  have f4 : (c : Int) < 32 := by omega
  go_enter Tryd.func83, Tryd.ntmps83
  go_wp2_with (first | (go_at_call 86; with_reducible refine (Tok.formatIntQ c hc _ hT).mono ?_; rintro e1 w1 ⟨rfl, b1⟩) | (go_at_call 48; with_reducible refine (wrS _ X l (⟨#[92, 117, 123]⟩ ++ ⟨(Tok.hexL c).toArray⟩ ++ ⟨#[125]⟩) hsz (by omega) (Bld.below h b1)).mono ?_; rintro e2 w2 ⟨⟨n2, rfl⟩, h2, k2⟩))
  refine bodyPost_ret (results_none rfl _ _ _) rfl ?_
  exact ⟨rfl, by rw [hout] at h2; exact h2, ((Kp.refl X w).below (Nat.le_of_lt h.lt) b1).trans k2⟩
set_option maxRecDepth 100000 in
set_option maxHeartbeats 4000000 in
theorem ws_127 (q : Nat) (c : Nat) (hc : (c < 32 ∧ c ≠ 9 ∧ c ≠ 10 ∧ c ≠ 13) ∨ c = 127) (hn : c ≠ 10 ∧ c ≠ 9 ∧ c ≠ 13) (h92 : c ≠ 92) (hq : c ≠ q) (h127 : c = 127) (w : World) (X : Nat) (l : List UInt8) (hl : l.length ≤ 900000) (hT : Tok.TZ w) (h : Bld w X l) :
    Calls Tryd.prog 83 #[.pointer (some ⟨X, 0, none⟩), .int .i32 (q : Int), .int .i32 (c : Int)] w (Wrote w X (l ++ ([92, 117, 123] ++ Tok.hexL c ++ [125]))) := by
  have hx := Tok.hexL_len' c
  have hxs : (⟨(Tok.hexL c).toArray⟩ : ByteArray).size = (Tok.hexL c).length := rfl
  have hs3 : (⟨#[92, 117, 123]⟩ : ByteArray).size = 3 := rfl
  have hs1 : (⟨#[125]⟩ : ByteArray).size = 1 := rfl
  have hsz : ((⟨#[92, 117, 123]⟩ : ByteArray) ++ ⟨(Tok.hexL c).toArray⟩ ++ ⟨#[125]⟩).size ≤ 1000000 := by rw [ByteArray.size_append, ByteArray.size_append, hxs, hs3, hs1]; omega
  have hout : ((⟨#[92, 117, 123]⟩ : ByteArray) ++ ⟨(Tok.hexL c).toArray⟩ ++ ⟨#[125]⟩).data.toList = [92, 117, 123] ++ Tok.hexL c ++ [125] := by simp [ByteArray.data_append]
  have a1 := fun w => run_string_add_sum (P := Tryd.prog) w ⟨#[92, 117, 123]⟩ ⟨(Tok.hexL c).toArray⟩ (by rw [hxs, hs3]; omega)
  have a2 := fun w => run_string_add_sum (P := Tryd.prog) w (⟨#[92, 117, 123]⟩ ++ ⟨(Tok.hexL c).toArray⟩) ⟨#[125]⟩ (by rw [ByteArray.size_append, hxs, hs3, hs1]; omega)
  clear hxs hs3 hs1 hx
  have f1 : ((c : Int) == 10) = false := by simp; omega
  have f2 : ((c : Int) == 9) = false := by simp; omega
  have f3 : ((c : Int) == 13) = false := by simp; omega
  have f7 : ((c : Int) == 92) = false := by simp; omega
  have f6 : ((c : Int) == (q : Int)) = false := by simp; omega
  have f4 : ¬ (c : Int) < 32 := by omega
  have f5 : ((c : Int) == 127) = true := by simp; omega
  clear h127
  go_enter Tryd.func83, Tryd.ntmps83
  go_wp2_with (first | (go_at_call 86; with_reducible refine (Tok.formatIntQ c hc _ hT).mono ?_; rintro e1 w1 ⟨rfl, b1⟩) | (go_at_call 48; with_reducible refine (wrS _ X l (⟨#[92, 117, 123]⟩ ++ ⟨(Tok.hexL c).toArray⟩ ++ ⟨#[125]⟩) hsz (by omega) (Bld.below h b1)).mono ?_; rintro e2 w2 ⟨⟨n2, rfl⟩, h2, k2⟩))
  refine bodyPost_ret (results_none rfl _ _ _) rfl ?_
  exact ⟨rfl, by rw [hout] at h2; exact h2, ((Kp.refl X w).below (Nat.le_of_lt h.lt) b1).trans k2⟩
set_option maxRecDepth 100000 in
set_option maxHeartbeats 4000000 in
theorem ws_plain (q : Nat) (c : Nat) (hc : c ≤ 1114111) (hn : c ≠ 10 ∧ c ≠ 9 ∧ c ≠ 13) (h92 : c ≠ 92) (hq : c ≠ q) (h32 : 32 ≤ c) (h127 : c ≠ 127) (w : World) (X : Nat) (l : List UInt8) (hl : l.length ≤ 900000) (hT : Tok.TZ w) (h : Bld w X l) :
    Calls Tryd.prog 83 #[.pointer (some ⟨X, 0, none⟩), .int .i32 (q : Int), .int .i32 (c : Int)] w (Wrote w X (l ++ enc (c : Int))) := by
  have f1 : ((c : Int) == 10) = false := by simp; omega
  have f2 : ((c : Int) == 9) = false := by simp; omega
  have f3 : ((c : Int) == 13) = false := by simp; omega
  have f6 : ((c : Int) == (q : Int)) = false := by simp; omega
  have f7 : ((c : Int) == 92) = false := by simp; omega
  have f4 : ¬ (c : Int) < 32 := by omega
  have f5 : ((c : Int) == 127) = false := by simp; omega
  go_enter Tryd.func83, Tryd.ntmps83
  go_wp2_with (first | (go_at_call 82; with_reducible refine (wrR _ X c l hc (by omega) h).mono ?_; rintro e1 w1 ⟨⟨n1, rfl⟩, h1, k1⟩))
  refine bodyPost_ret (results_none rfl _ _ _) rfl ?_
  exact ⟨rfl, h1, k1⟩
/-- writeShort writes a character as it stands in a literal with quotes q. -/
theorem writeShortQ (q c : Nat) (hc : c ≤ 1114111) (w : World) (X : Nat) (l : List UInt8) (hl : l.length ≤ 900000) (hT : Tok.TZ w) (h : Bld w X l) :
    Calls Tryd.prog 83 #[.pointer (some ⟨X, 0, none⟩), .int .i32 (q : Int), .int .i32 (c : Int)] w (Wrote w X (l ++ chS (c : Int) (q : Int))) := by
  unfold chS
  by_cases h10 : c = 10
  · rw [if_pos (by omega)]; subst h10; exact ws_10 q w X l hl hT h
  rw [if_neg (by omega)]
  by_cases h9 : c = 9
  · rw [if_pos (by omega)]; subst h9; exact ws_9 q w X l hl hT h
  rw [if_neg (by omega)]
  by_cases h13 : c = 13
  · rw [if_pos (by omega)]; subst h13; exact ws_13 q w X l hl hT h
  rw [if_neg (by omega)]
  by_cases h92 : c = 92
  · rw [if_pos (Or.inl (by omega))]
    exact ws_92 q c hc ⟨h10, h9, h13⟩ h92 w X l hl hT h
  by_cases hq : c = q
  · rw [if_pos (Or.inr (by omega))]
    exact ws_q q c hc ⟨h10, h9, h13⟩ h92 hq w X l hl hT h
  rw [if_neg (by omega)]
  by_cases h32 : c < 32
  · rw [if_pos (Or.inl (by omega)), Int.toNat_natCast, ← hexL_hx c (by omega)]
    exact ws_32 q c (Or.inl ⟨h32, h9, h10, h13⟩) ⟨h10, h9, h13⟩ h92 hq h32 w X l hl hT h
  by_cases h127 : c = 127
  · rw [if_pos (Or.inr (by omega)), Int.toNat_natCast, ← hexL_hx c (by omega)]
    exact ws_127 q c (Or.inr h127) ⟨h10, h9, h13⟩ h92 hq h127 w X l hl hT h
  · rw [if_neg (by omega)]
    exact ws_plain q c hc ⟨h10, h9, h13⟩ h92 hq (by omega) h127 w X l hl hT h
/-- Characters in a literal with quotes q, with these quotes. -/
def quoQ (q : Nat) (L : List Int) : List UInt8 := enc (q : Int) ++ (L.map fun c => chS c (q : Int)).flatten ++ enc (q : Int)
theorem chs_len (q : Int) : ∀ (L : List Int), (∀ x ∈ L, 0 ≤ x ∧ x ≤ 1114111) → ((L.map fun c => chS c q).flatten).length ≤ 12 * L.length
  | [], _ => by simp
  | x :: r, h => by
    have h1 := chS_len x q (h x (by simp)).2
    have h2 := chs_len q r fun y hy => h y (List.mem_cons_of_mem _ hy)
    rw [List.map_cons, List.flatten_cons, List.length_append, List.length_cons]
    omega
set_option maxRecDepth 100000 in
set_option maxHeartbeats 4000000 in
theorem writeQuotedQ (q : Nat) (hq : q ≤ 127) (a : Option Addr) (cap : Nat) (L : List Int) (hL : ∀ x ∈ L, 0 ≤ x ∧ x ≤ 1114111) (hn : L.length ≤ 66000) (w : World) (X : Nat) (l : List UInt8) (hl : l.length + 12 * L.length ≤ 890000) (hT : Tok.TZ w) (hg : 3 < X) (h : Bld w X l) (hI : II X w a cap L) :
    Calls Tryd.prog 70 #[.pointer (some ⟨X, 0, none⟩), .int .i32 (q : Int), .slice a L.length cap] w (Wrote w X (l ++ quoQ q L)) := by
  obtain ⟨R, hR⟩ : ∃ R, Hid (l ++ quoQ q L = R) := ⟨_, rfl⟩
  rw [hR.out]
  obtain ⟨n, hNl⟩ : ∃ n, Hid (L.length = n) := ⟨_, rfl⟩
  have hn1 : n ≤ 66000 := by rw [← hNl.out]; exact hn
  have hl1 : l.length + 12 * n ≤ 890000 := by rw [← hNl.out]; exact hl
  have e1 := enc_len (q : Int)
  have hcl := fun k => chs_len (q : Int) (L.take k) fun x hx => hL x (List.mem_of_mem_take hx)
  rw [hNl.out]
  clear hn hl
  go_enter Tryd.func70, Tryd.ntmps70
  go_wp2_with (go_at_call 82; with_reducible refine (wrR _ X q l (by omega) (by omega) h).mono ?_; rintro e1 w1 ⟨⟨n1, rfl⟩, h1, k1⟩)
  go_loopw [13] (fun i wr => ∃ k : Nat, k ≤ n ∧ i = .int .i64 (k : Int) ∧ Bld wr X (l ++ enc (q : Int) ++ ((L.take k).map fun c => chS c (q : Int)).flatten) ∧ Kp X w wr) (fun i _ => n - (intOf i).toNat)
  case atStart => exact ⟨0, Nat.zero_le _, rfl, by simpa using h1, k1⟩
  case round =>
    clear h1 k1
    obtain ⟨k, hk, rfl, h0, k0⟩ := hrel
    by_cases hlt : k < n
    · have hlt' : (k : Int) < (n : Int) := by omega
      have hkl : k < L.length := by rw [hNl.out]; exact hlt
      have hI0 := (hI.keep k0).at
      obtain ⟨b, off, hi, hc⟩ := hI0.at hkl
      rw [hNl.out] at hi
      obtain ⟨b0, b1⟩ := hL _ (List.getElem_mem hkl)
      have hst : (((L.take (k + 1)).map fun c => chS c (q : Int)).flatten) = ((L.take k).map fun c => chS c (q : Int)).flatten ++ chS L[k] (q : Int) := by
        rw [List.take_succ_eq_append_getElem hkl, List.map_append, List.flatten_append, List.map_cons, List.map_nil, List.flatten_cons, List.flatten_nil, List.append_nil]
      have hlen := hcl k
      rw [List.length_take] at hlen
      obtain ⟨x, hx⟩ : ∃ x : Nat, L[k] = (x : Int) := ⟨L[k].toNat, by omega⟩
      rw [hx] at hst hc b0 b1
      have hxw : IntKind.i32.wrap (x : Int) = (x : Int) := by unfold IntKind.wrap; simp [IntKind.bits, IntKind.signed]; omega
      have hT0 : Tok.TZ wr := by
        have := k0.1.cell (p := ⟨3, 15, none⟩) hg
        unfold Tok.TZ at hT ⊢
        rw [this]; exact hT
      have cW := fun w (hT : Tok.TZ w) h => writeShortQ q x (by omega) w X (l ++ enc (q : Int) ++ ((L.take k).map fun c => chS c (q : Int)).flatten) (by rw [List.length_append, List.length_append]; omega) hT h
      have hHs := Lib.hid hst
      clear hst hx hI0 hlen
      generalize ((L.take k).map fun c => chS c (q : Int)).flatten = D at *
      go_wp2_with (go_at_call 83; with_reducible refine (cW _ hT0 h0).mono ?_; rintro e2 w2 ⟨rfl, h2, k2⟩)
      go_roundw
      case rel => exact ⟨k + 1, by omega, by go_num, by rw [hHs.out, ← List.append_assoc]; exact h2, k0.trans k2⟩
      case measure => simp [intOf]; omega
    · obtain rfl : k = n := by omega
      have hn0 : ¬ (k : Int) < (k : Int) := by omega
      have e : L.take k = L := List.take_of_length_le (by rw [hNl.out]; exact Nat.le_refl _)
      rw [e] at h0
      have hlen := hcl k
      rw [e] at hlen
      have hb : (l ++ enc (q : Int) ++ (L.map fun c => chS c (q : Int)).flatten).length ≤ 1000000 := by rw [List.length_append, List.length_append]; rw [hNl.out] at hlen; omega
      have hR2 : R = (l ++ enc (q : Int) ++ (L.map fun c => chS c (q : Int)).flatten) ++ enc (q : Int) := by rw [← hR.out]; simp [quoQ]
      subst hR2
      clear hR hlen hcl e
      generalize (l ++ enc (q : Int) ++ (L.map fun c => chS c (q : Int)).flatten) = D at *
      go_wp2_with (go_at_call 82; with_reducible refine (wrR _ X q D (by omega) hb h0).mono ?_; rintro e2 w2 ⟨⟨n2, rfl⟩, h2, k2⟩)
      refine bodyPost_ret (results_none rfl _ _ _) rfl ?_
      exact ⟨rfl, h2, k0.trans k2⟩
end Go.Proofs.YtngcahaidlgkfaaDoor.Shape

namespace Go.Proofs.YtngcahaidlgkfaaDoor.Shape
open Go.RowKit Go.Proofs.YtngcahaidlgkfaaDoor.Num
set_option linter.unusedVariables false
set_option linter.unusedSimpArgs false

theorem Quad.kp {X R : Nat} {w w' : World} {c0 c1 c2 c3 : Value} (h : Quad w R c0 c1 c2 c3) (hn : R ≠ X) (k : Kp X w w') : Quad w' R c0 c1 c2 c3 :=
  k.2 R _ h (fun e => hn (Option.some.inj e)) (fun c fz e => by injection e with e1 e2 e3; exact absurd e2 (by decide))
theorem tz_kp {X : Nat} {w w' : World} (hT : Tok.TZ w) (hg : 3 < X) (k : Kp X w w') : Tok.TZ w' := by
  have := k.1.cell (p := ⟨3, 15, none⟩) hg
  unfold Tok.TZ at hT ⊢
  rw [this]; exact hT
theorem enc_39 : enc ((39 : Nat) : Int) = [39] := by decide
theorem enc_34 : enc ((34 : Nat) : Int) = [34] := by decide
theorem II.one {X : Nat} {w : World} (hX : X < w.heap.size) (x : Int) (hx : -9223372036854775808 ≤ x ∧ x ≤ 9223372036854775807) : II X (w.alloc (.cells #[.int .i64 x] 3)) (some ⟨w.heap.size, 0, none⟩) 1 [x] := by
  refine ⟨⟨Nat.le_refl _, by decide, fun y hy => by simp at hy; subst hy; exact hx, w.heap.size, 0, fun _ => rfl, fun i hi => ?_⟩, fun _ ad e => ?_⟩
  · obtain rfl : i = 0 := by simpa using hi
    rw [World.cell?_alloc_new]; rfl
  · cases e
    exact Or.inr ⟨by show w.heap.size ≠ X; omega, _, Tok.heap_alloc_new w _, fun c fz e => by injection e with e1 e2 e3; exact absurd e2 (by decide)⟩
/-- An item of an array, read out of its row. -/
theorem ArrsOn.item {P : Nat → Prop} {w : World} : ∀ {l : List Arr} {b off : Nat}, ArrsOn P w b off l → ∀ {k : Nat} (hk : k < l.length), ∃ c0 c1 c2 c3 : Value,
    (w.cell? ⟨b, off + k * 4, none⟩ = some c0 ∧ w.cell? ⟨b, off + k * 4 + 1, none⟩ = some c1 ∧ w.cell? ⟨b, off + k * 4 + 2, none⟩ = some c2 ∧ w.cell? ⟨b, off + k * 4 + 3, none⟩ = some c3) ∧ ArrOn P w (.agg #[c0, c1, c2, c3]) l[k]
  | [], _, _, _, k, hk => absurd hk (by simp)
  | A :: r, b, off, h, k, hk => by
    rw [ArrsOn] at h
    cases k with
    | zero => simpa using h.1
    | succ k =>
      have := ArrsOn.item h.2 (k := k) (by simpa using hk)
      have e : off + 4 + k * 4 = off + (k + 1) * 4 := by omega
      rw [e] at this
      simpa using this
theorem litsS_at : ∀ (l : List Arr) (i : Nat) (hi : i < l.length), (litsS l)[i]'(by rw [litsS_len]; exact hi) = 98 :: 111 :: 120 :: 32 :: litS l[i]
  | [], i, hi => absurd hi (by simp)
  | A :: r, 0, hi => by simp [litsS]
  | A :: r, i + 1, hi => by
    have := litsS_at r i (by simpa using hi)
    simp only [litsS, List.getElem_cons_succ]
    exact this
/-- The contract of writeLiteral at an array. -/
def WrA (A : Arr) : Prop := ∀ (w : World) (X : Nat) (l : List UInt8) (v : Value), l.length + (litS A).length ≤ 700000 → Tok.TZ w → 3 < X → Bld w X l → AA X w v A →
  Calls Tryd.prog 34 #[.pointer (some ⟨X, 0, none⟩), v] w (Wrote w X (l ++ litS A))
set_option maxRecDepth 100000 in
set_option maxHeartbeats 4000000 in
theorem wsc1 (sh nu : List Int) (it : List Arr) (v : Value) (i : Nat) (hi : i < nu.length) (w : World) (X : Nat) (l : List UInt8) (hl : l.length ≤ 850000) (h : Bld w X l) (hA : ArrAt w v (.mk 1 sh nu it)) :
    Calls Tryd.prog 57 #[.pointer (some ⟨X, 0, none⟩), v, .int .i64 (i : Int)] w (Wrote w X (l ++ shL nu[i])) := by
  have hA' := hA
  rw [ArrAt] at hA'
  obtain ⟨sa, sc, na, nc, ia, ic, rfl, hk, hs, hn, h1, h2, b, off, ha, hc⟩ := hA'
  have bw := below_new w (.cells #[.int .i64 1, .slice sa sh.length sc, .slice na nu.length nc, .slice ia it.length ic] 26)
  have k0 : Kp X w (w.alloc (.cells #[.int .i64 1, .slice sa sh.length sc, .slice na nu.length nc, .slice ia it.length ic] 26)) := (Kp.refl X w).below (Nat.le_of_lt h.lt) bw
  have hB := h.below bw
  have hn1 := hn.below bw
  obtain ⟨b', o', hi', hc'⟩ := hn1.at hi
  obtain ⟨bd1, bd2⟩ := hn1.bd hi
  obtain ⟨x, hx⟩ : ∃ x, nu[i] = x := ⟨_, rfl⟩
  rw [hx] at hc' bd1 bd2 ⊢
  have cN : ∀ w, Calls Tryd.prog 43 #[.int .i64 x] w fun e w' => e = .returned (.string ⟨(shL x).toArray⟩) ∧ Below w.heap.size w w' := fun w => Num.showP x w bd1 bd2
  have hsz : (shL x).length ≤ 1000000 := by
    have := sS_size x bd1 bd2
    have e : (sS x).size = (shL x).length := rfl
    omega
  have hlt := h.lt
  clear hn1 hx hs hn h1 h2 ha hc hk
  go_enter Tryd.func57, Tryd.ntmps57
  go_wp2_with (first
    | (go_at_call 43; with_reducible refine (cN _).mono ?_; rintro e1 w1 ⟨rfl, b1⟩)
    | (go_at_call 48; with_reducible refine (wrL _ X l (shL x) hsz (by omega) (Bld.below hB b1)).mono ?_; rintro e2 w2 ⟨⟨n2, rfl⟩, h2, k2⟩))
  refine bodyPost_ret (results_none rfl _ _ _) rfl ?_
  exact ⟨rfl, h2, (k0.below (by simp; omega) b1).trans k2⟩
set_option maxRecDepth 100000 in
set_option maxHeartbeats 4000000 in
theorem wsc2 (sh nu : List Int) (it : List Arr) (v : Value) (i : Nat) (hi : i < nu.length) (hch : ∀ x ∈ nu, 0 ≤ x ∧ x ≤ 1114111) (w : World) (X : Nat) (l : List UInt8) (hl : l.length ≤ 850000) (hT : Tok.TZ w) (hg : 3 < X) (h : Bld w X l) (hA : ArrAt w v (.mk 2 sh nu it)) :
    Calls Tryd.prog 57 #[.pointer (some ⟨X, 0, none⟩), v, .int .i64 (i : Int)] w (Wrote w X (l ++ (39 :: (chS nu[i] 39 ++ [39])))) := by
  have hA' := hA
  rw [ArrAt] at hA'
  obtain ⟨sa, sc, na, nc, ia, ic, rfl, hk, hs, hn, h1, h2, b, off, ha, hc⟩ := hA'
  have bw := below_new w (.cells #[.int .i64 2, .slice sa sh.length sc, .slice na nu.length nc, .slice ia it.length ic] 26)
  have k0 : Kp X w (w.alloc (.cells #[.int .i64 2, .slice sa sh.length sc, .slice na nu.length nc, .slice ia it.length ic] 26)) := (Kp.refl X w).below (Nat.le_of_lt h.lt) bw
  have hB := h.below bw
  have hn1 := hn.below bw
  obtain ⟨b', o', hi', hc'⟩ := hn1.at hi
  obtain ⟨bd1, bd2⟩ := hch _ (List.getElem_mem hi)
  obtain ⟨x, hx⟩ : ∃ x, nu[i] = x := ⟨_, rfl⟩
  rw [hx] at hc' bd1 bd2 ⊢
  have hlt := h.lt
  have hw1 : X < (w.alloc (.cells #[.int .i64 2, .slice sa sh.length sc, .slice na nu.length nc, .slice ia it.length ic] 26)).heap.size := by simp; omega
  have b2 := below_new (w.alloc (.cells #[.int .i64 2, .slice sa sh.length sc, .slice na nu.length nc, .slice ia it.length ic] 26)) (.cells #[.int .i64 x] 3)
  have k2 : Kp X w ((w.alloc (.cells #[.int .i64 2, .slice sa sh.length sc, .slice na nu.length nc, .slice ia it.length ic] 26)).alloc (.cells #[.int .i64 x] 3)) := k0.below (Nat.le_of_lt hw1) b2
  have hB2 := hB.below b2
  have hI := II.one hw1 x ⟨by omega, by omega⟩
  have hz : (w.alloc (.cells #[.int .i64 2, .slice sa sh.length sc, .slice na nu.length nc, .slice ia it.length ic] 26)).heap.size = w.heap.size + 1 := by simp
  rw [hz] at hI
  have cQ : Calls Tryd.prog 70 #[.pointer (some ⟨X, 0, none⟩), .int .i32 39, .slice (some ⟨w.heap.size + 1, 0, none⟩) 1 1] ((w.alloc (.cells #[.int .i64 2, .slice sa sh.length sc, .slice na nu.length nc, .slice ia it.length ic] 26)).alloc (.cells #[.int .i64 x] 3)) (Wrote ((w.alloc (.cells #[.int .i64 2, .slice sa sh.length sc, .slice na nu.length nc, .slice ia it.length ic] 26)).alloc (.cells #[.int .i64 x] 3)) X (l ++ (39 :: (chS x 39 ++ [39])))) := by
    have := writeQuotedQ 39 (by decide) (some ⟨w.heap.size + 1, 0, none⟩) 1 [x] (fun y hy => by simp at hy; subst hy; exact ⟨bd1, bd2⟩) (by simp) _ X l (by simp; omega) (tz_kp hT hg k2) hg hB2 hI
    have e : quoQ 39 [x] = 39 :: (chS x 39 ++ [39]) := by
      rw [quoQ, enc_39]; simp
    rw [e] at this
    exact this
  clear hn1 hx hs hn h1 h2 ha hc hk hI hz
  go_enter Tryd.func57, Tryd.ntmps57
  go_wp2_with (go_at_call 70; with_reducible refine cQ.mono ?_; rintro e1 w1 ⟨rfl, h3, k3⟩)
  refine bodyPost_ret (results_none rfl _ _ _) rfl ?_
  exact ⟨rfl, h3, k2.trans k3⟩
set_option maxRecDepth 100000 in
set_option maxHeartbeats 4000000 in
theorem wsc3 (sh nu : List Int) (it : List Arr) (v : Value) (i : Nat) (hi : i < it.length) (hW : WrA it[i]) (w : World) (X : Nat) (l : List UInt8) (hl : l.length + 4 + (litS it[i]).length ≤ 700000) (hT : Tok.TZ w) (hg : 3 < X) (h : Bld w X l) (hA : AA X w v (.mk 3 sh nu it)) :
    Calls Tryd.prog 57 #[.pointer (some ⟨X, 0, none⟩), v, .int .i64 (i : Int)] w (Wrote w X (l ++ (98 :: 111 :: 120 :: 32 :: litS it[i]))) := by
  have hA' := hA
  rw [AA, ArrOn] at hA'
  obtain ⟨sa, sc, na, nc, ia, ic, rfl, hk, hs, hn, h1, h2, b, off, ha, hc⟩ := hA'
  have bw := below_new w (.cells #[.int .i64 3, .slice sa sh.length sc, .slice na nu.length nc, .slice ia it.length ic] 26)
  have k0 : Kp X w (w.alloc (.cells #[.int .i64 3, .slice sa sh.length sc, .slice na nu.length nc, .slice ia it.length ic] 26)) := (Kp.refl X w).below (Nat.le_of_lt h.lt) bw
  have hB := h.below bw
  have hlt := h.lt
  have hne : it ≠ [] := fun e => by rw [e] at hi; exact absurd hi (by simp)
  obtain ⟨rfl, hPb⟩ := ha hne
  have hix : ∀ w' : World, (Instr.indexAt 24 (.slice (some ⟨b, off, none⟩) it.length ic) (.int .i64 (i : Int))).run Tryd.prog w' = .ok (.pointer (some ⟨b, off + i * 4, none⟩)) w' := fun w' => items_at (l := it) rfl (fun _ => rfl) hi w'
  have q0 := Quad.new w (.int .i64 3) (.slice sa sh.length sc) (.slice na nu.length nc) (.slice (some ⟨b, off, none⟩) it.length ic)
  have go : ∀ w1, Kp X w w1 → ∃ c0 c1 c2 c3 : Value, (w1.cell? ⟨b, off + i * 4, none⟩ = some c0 ∧ w1.cell? ⟨b, off + i * 4 + 1, none⟩ = some c1 ∧ w1.cell? ⟨b, off + i * 4 + 2, none⟩ = some c2 ∧ w1.cell? ⟨b, off + i * 4 + 3, none⟩ = some c3) ∧ AA X w1 (.agg #[c0, c1, c2, c3]) it[i] := fun w1 k => ArrsOn.item (ArrsOn.keep k.keep hPb hc) hi
  have e4 : l ++ (98 :: 111 :: 120 :: 32 :: litS it[i]) = (l ++ [98, 111, 120, 32]) ++ litS it[i] := by simp
  rw [e4]
  have hl4 : (l ++ [98, 111, 120, 32]).length + (litS it[i]).length ≤ 700000 := by rw [List.length_append]; simp; omega
  clear hs hn h1 h2 ha hc hk hne e4
  go_enter Tryd.func57, Tryd.ntmps57
  have q1 := q0
  go_wp2_with (first
    | (go_at_call 48; (with_reducible refine (wrL _ X l [98, 111, 120, 32] (by decide) (by omega) hB).mono ?_); rintro e1 w1 ⟨⟨n1, rfl⟩, h3, k3⟩; have k4 := Kp.trans k0 k3; obtain ⟨y0, y1, y2, y3, -⟩ := (Quad.kp q1 (Nat.ne_of_gt hlt) k3).cells; obtain ⟨c0, c1, c2, c3, ⟨z0, z1, z2, z3⟩, hAi⟩ := go w1 k4; have cW := hW w1 X _ _ hl4 (tz_kp hT hg k4) hg h3 hAi)
    | (go_at_call 34; with_reducible refine cW.mono ?_; rintro e2 w2 ⟨rfl, h5, k5⟩))
  refine bodyPost_ret (results_none rfl _ _ _) rfl ?_
  exact ⟨rfl, h5, k4.trans k5⟩
/-- writeScalar writes the text of an element as a scalar. -/
theorem writeScalarQ (A : Arr) (v : Value) (i : Nat) (hk : 1 ≤ A.kind ∧ A.kind ≤ 3) (hch : A.kind = 2 → ∀ x ∈ A.nums, 0 ≤ x ∧ x ≤ 1114111) (hI : A.kind = 3 → ∀ j (hj : j < A.items.length), WrA A.items[j]) (hi : i < (elsT A).length)
    (w : World) (X : Nat) (l : List UInt8) (hl : l.length + (elsT A)[i].length ≤ 700000) (hT : Tok.TZ w) (hg : 3 < X) (h : Bld w X l) (hA : AA X w v A) :
    Calls Tryd.prog 57 #[.pointer (some ⟨X, 0, none⟩), v, .int .i64 (i : Int)] w (Wrote w X (l ++ (elsT A)[i])) := by
  obtain ⟨k, sh, nu, it⟩ := A
  simp only [Arr.kind] at hk hch hI
  have hi' := hi
  rw [els_len (A := .mk k sh nu it) hk] at hi'
  rcases (by omega : k = 3 ∨ k = 1 ∨ k = 2) with rfl | rfl | rfl
  · rw [size3 rfl] at hi'
    simp only [Arr.items] at hi' hI
    have e : (elsT (.mk 3 sh nu it))[i] = 98 :: 111 :: 120 :: 32 :: litS it[i] := by
      simp only [elsT, Arr.kind, Arr.items, if_pos]
      exact litsS_at it i hi'
    rw [e] at hl ⊢
    exact wsc3 sh nu it v i hi' (by first | exact hI rfl i hi' | exact hI trivial i hi') w X l (by simp at hl; omega) hT hg h hA
  · rw [size12 (by simp [Arr.kind]) (by simp [Arr.kind])] at hi'
    have e : (elsT (.mk 1 sh nu it))[i] = shL nu[i] := by simp [elsT, Arr.kind, Arr.nums]; rfl
    rw [e] at hl ⊢
    exact wsc1 sh nu it v i hi' w X l (by omega) h hA.at
  · rw [size12 (by simp [Arr.kind]) (by simp [Arr.kind])] at hi'
    have e : (elsT (.mk 2 sh nu it))[i] = 39 :: (chS nu[i] 39 ++ [39]) := by simp [elsT, Arr.kind, Arr.nums]; rfl
    rw [e] at hl ⊢
    exact wsc2 sh nu it v i hi' (hch rfl) w X l (by omega) hT hg h hA.at
end Go.Proofs.YtngcahaidlgkfaaDoor.Shape

namespace Go.Proofs.YtngcahaidlgkfaaDoor.Shape
open Go.RowKit Go.Proofs.YtngcahaidlgkfaaDoor.Num
set_option linter.unusedVariables false
set_option linter.unusedSimpArgs false

theorem blank_step (F : List (List UInt8)) (j : Nat) (hj : j < F.length) : blankS (F.take (j + 1)) = if j = 0 then F[j] else blankS (F.take j) ++ 32 :: F[j] := by
  rw [List.take_succ_eq_append_getElem hj]
  split
  · rename_i h0; subst h0; simp [blankS]
  · rename_i h0
    rw [blankS_snoc]
    intro e
    have := congrArg List.length e
    rw [List.length_take, List.length_nil] at this
    omega
theorem blank_take (F : List (List UInt8)) (j : Nat) : (blankS (F.take j)).length ≤ (blankS F).length := by
  cases F with
  | nil => simp
  | cons x r =>
    cases j with
    | zero => simp [blankS]
    | succ j =>
      rw [List.take_succ_cons, blankS, blankS, List.map_take, List.length_append, List.length_append]
      have : ((List.take j (r.map fun y => 32 :: y)).flatten).length ≤ ((r.map fun y => 32 :: y).flatten).length := by
        conv => rhs; rw [← List.take_append_drop j (r.map fun y => 32 :: y), List.flatten_append, List.length_append]
        omega
      omega
set_option maxRecDepth 100000 in
set_option maxHeartbeats 8000000 in
theorem wv1 (sh nu : List Int) (it : List Arr) (v : Value) (N : Nat) (hN : N = (elsT (.mk 1 sh nu it)).length) (hN2 : N ≤ 66000) (w : World) (X : Nat) (l : List UInt8) (hl : l.length + (vecS 1 nu (elsT (.mk 1 sh nu it))).length ≤ 700000) (hT : Tok.TZ w) (hg : 3 < X) (h : Bld w X l) (hA : AA X w v (.mk 1 sh nu it)) :
    Calls Tryd.prog 56 #[.pointer (some ⟨X, 0, none⟩), v] w (Wrote w X (l ++ vecS 1 nu (elsT (.mk 1 sh nu it)))) := by
  have hA0 := hA
  obtain ⟨E, hE⟩ : ∃ E, Hid (elsT (.mk 1 sh nu it) = E) := ⟨_, rfl⟩
  have hEv : vecS 1 nu E = blankS (E.map fun t => ([] : List UInt8) ++ t ++ []) := by
    rw [vecS]; rw [if_neg (by decide), if_neg (by decide)]; congr 1; simp
  have SC : ∀ (i : Nat) (hi : i < E.length) (w : World) (l : List UInt8), l.length + (E[i]).length ≤ 800000 → Tok.TZ w → Bld w X l → AA X w v (.mk 1 sh nu it) → Calls Tryd.prog 57 #[.pointer (some ⟨X, 0, none⟩), v, .int .i64 (i : Int)] w (Wrote w X (l ++ E[i])) := by
    intro i hi w l h1 h2 h3 h4
    have e := hE.out
    subst e
    have hi' : i < nu.length := by rw [els_len (A := .mk 1 sh nu it) (by simp [Arr.kind])] at hi; exact hi
    have e1 : (elsT (.mk 1 sh nu it))[i] = shL nu[i] := by simp [elsT, Arr.kind, Arr.nums]
    rw [e1]
    exact wsc1 sh nu it v i hi' w X l (by omega) h3 h4.at
  rw [hE.out] at hl hN ⊢
  rw [hEv] at hl ⊢
  clear hEv
  have hA' := hA
  rw [AA, ArrOn] at hA'
  obtain ⟨sa, sc, na, nc, ia, ic, rfl, hk, hs, hn, h1, h2, b, off, ha, hc⟩ := hA'
  have bw := below_new w (.cells #[.int .i64 1, .slice sa sh.length sc, .slice na nu.length nc, .slice ia it.length ic] 26)
  have k0 : Kp X w (w.alloc (.cells #[.int .i64 1, .slice sa sh.length sc, .slice na nu.length nc, .slice ia it.length ic] 26)) := (Kp.refl X w).below (Nat.le_of_lt h.lt) bw
  have hB := h.below bw
  have q0 := Quad.new w (.int .i64 1) (.slice sa sh.length sc) (.slice na nu.length nc) (.slice ia it.length ic)
  have hlt := h.lt
  have hne : w.heap.size ≠ X := Nat.ne_of_gt hlt
  have cZ := sizeQ _ (.mk 1 sh nu it) _ (AA.at (AA.keep hA0 k0))
  have hz : (aSize (.mk 1 sh nu it) : Int) = (N : Int) := by
    rw [hN, ← hE.out, els_len (A := .mk 1 sh nu it) (by simp [Arr.kind])]
  rw [hz] at cZ
  clear hs hn h1 h2 ha hc hk hA hz hE
  obtain ⟨F, hF⟩ : ∃ F : List (List UInt8), Hid (E.map (fun t => ([] : List UInt8) ++ t ++ []) = F) := ⟨_, Lib.hid rfl⟩
  rw [hF.out] at hl ⊢
  have hFl : Hid (F.length = N) := by unfold Hid; rw [← hF.out, List.length_map, hN]
  have hpre := fun j => blank_take F j
  have hN0 := Lib.hid hN
  clear hN
  go_enter Tryd.func56, Tryd.ntmps56
  go_wp2_with (go_at_call 21; (with_reducible refine cZ.mono ?_); rintro e1 w1 ⟨rfl, b1⟩; have K1 := Kp.below k0 (Nat.le_of_lt hB.lt) b1; have hB1 := Bld.below hB b1; have q1 := Quad.below b1 q0)
  go_loopw [19] (fun i wr => ∃ (j : Nat) (L : List UInt8), j ≤ N ∧ i = .int .i64 (j : Int) ∧ Hid (L = l ++ blankS (F.take j)) ∧ Bld wr X L ∧ Kp X w wr ∧ Quad wr w.heap.size (.int .i64 1) (.slice sa sh.length sc) (.slice na nu.length nc) (.slice ia it.length ic)) (fun i _ => N - (intOf i).toNat)
  case atStart => exact ⟨0, l, Nat.zero_le _, rfl, Lib.hid (by simp [blankS]), hB1, K1, q1⟩
  case round =>
    clear hB1 K1 q1 b1 hB q0 k0 bw cZ
    obtain ⟨j, L, hj, rfl, hLq, hB0, K0, q00⟩ := hrel
    by_cases hlt2 : j < N
    · have hlt' : (j : Int) < (N : Int) := by omega
      have hjE : j < E.length := by rw [← hN0.out]; exact hlt2
      have hjF : j < F.length := by rw [hFl.out]; exact hlt2
      have hFj : F[j] = [] ++ E[j] ++ [] := by
        have e := hF.out
        subst e
        simp
      have hlen : (l ++ blankS (F.take j)).length + 3 + (E[j]).length ≤ 700004 := by
        have h1 := hpre (j + 1)
        have h2 := blank_step F j hjF
        rw [h2, hFj] at h1
        by_cases h0 : j = 0
        · subst h0; simp [blankS] at *; omega
        · rw [if_neg h0] at h1
          simp only [List.length_append, List.length_cons, List.length_nil] at h1 hl ⊢
          omega
      have hst0 : l ++ blankS (F.take (j + 1)) = if j = 0 then L ++ ([] ++ E[j] ++ []) else L ++ [32] ++ ([] ++ E[j] ++ []) := by
        rw [hLq.out, blank_step F j hjF, hFj]
        split
        · rename_i h0; subst h0; simp [blankS]
        · simp
      rw [← hLq.out] at hlen
      have hT0 := fun w' (k : Kp X w w') => tz_kp hT hg k
      have cS0 : ∀ (w' : World) (l' : List UInt8), l'.length + (E[j]).length ≤ 800000 → Kp X w w' → Bld w' X l' → Calls Tryd.prog 57 #[.pointer (some ⟨X, 0, none⟩), .agg #[.int .i64 1, .slice sa sh.length sc, .slice na nu.length nc, .slice ia it.length ic], .int .i64 (j : Int)] w' (Wrote w' X (l' ++ E[j])) := fun w' l' h1 h2 h3 => SC j hjE w' l' h1 (hT0 w' h2) h3 (AA.keep hA0 h2)
      have hL1 : L.length ≤ 1000000 := by omega
      generalize E[j] = T at *
      have hLn : ∀ l' : List UInt8, l'.length ≤ L.length + 1 → l'.length ≤ 1000000 := fun l' h => by omega
      have hLs : ∀ l' : List UInt8, l'.length ≤ L.length + 2 → l'.length + T.length ≤ 800000 := fun l' h => by omega
      have hLt : ∀ l' : List UInt8, l'.length ≤ L.length + 2 + T.length → l'.length ≤ 1000000 := fun l' h => by omega
      clear SC hFj hT0 hjE hjF hpre hlen hLq
      by_cases h0 : j = 0
      · rw [if_pos h0] at hst0
        have hst := hst0
        clear hst0
        have hj0 : ¬ (0 : Int) < (j : Int) := by omega
        clear h0
        go_wp2_with (first
          | (go_at_call 48; (with_reducible refine (wrL _ X L [] (by decide) (hLn _ (by first | rfl | simp)) hB0).mono ?_); rintro e2 w2 ⟨⟨n2, rfl⟩, hB2, k2⟩; have K2 := Kp.trans K0 k2; have q2 := Quad.kp q00 hne k2; obtain ⟨y0, y1, y2, y3, -⟩ := Quad.cells q2; have cS := cS0 w2 _ (hLs _ (by first | (simp; done) | (simp; omega))) K2 hB2)
          | (go_at_call 57; (with_reducible refine cS.mono ?_); rintro e3 w3 ⟨rfl, hB3, k3⟩; have K3 := Kp.trans K2 k3; have q3 := Quad.kp q2 hne k3)
          | (go_at_call 48; (with_reducible refine (wrL _ X (L ++ [] ++ T) [] (by decide) (hLt _ (by first | (simp; done) | (simp; omega))) hB3).mono ?_); rintro e4 w4 ⟨⟨n4, rfl⟩, hB4, k4⟩; have K4 := Kp.trans K3 k4; have q4 := Quad.kp q3 hne k4))
        go_roundw
        case rel => exact ⟨j + 1, _, by omega, by go_num, by rw [hst]; exact Lib.hid (by simp), hB4, K4, q4⟩
        case measure => simp [intOf]; omega
      · rw [if_neg h0] at hst0
        have hst := hst0
        clear hst0
        have hj0 : (0 : Int) < (j : Int) := by omega
        clear h0
        go_wp2_with (first
          | (go_at_call 71; (with_reducible refine (wr32 _ X L hL1 hB0).mono ?_); rintro e1 w1 ⟨rfl, hB1, k1⟩; have K1 := Kp.trans K0 k1; have q1 := Quad.kp q00 hne k1)
          | (go_at_call 48; (with_reducible refine (wrL _ X (L ++ [32]) [] (by decide) (hLn _ (by first | rfl | simp)) hB1).mono ?_); rintro e2 w2 ⟨⟨n2, rfl⟩, hB2, k2⟩; have K2 := Kp.trans K1 k2; have q2 := Quad.kp q1 hne k2; obtain ⟨y0, y1, y2, y3, -⟩ := Quad.cells q2; have cS := cS0 w2 _ (hLs _ (by first | (simp; done) | (simp; omega))) K2 hB2)
          | (go_at_call 57; (with_reducible refine cS.mono ?_); rintro e3 w3 ⟨rfl, hB3, k3⟩; have K3 := Kp.trans K2 k3; have q3 := Quad.kp q2 hne k3)
          | (go_at_call 48; (with_reducible refine (wrL _ X ((L ++ [32]) ++ [] ++ T) [] (by decide) (hLt _ (by first | (simp; done) | (simp; omega))) hB3).mono ?_); rintro e4 w4 ⟨⟨n4, rfl⟩, hB4, k4⟩; have K4 := Kp.trans K3 k4; have q4 := Quad.kp q3 hne k4))
        go_roundw
        case rel => exact ⟨j + 1, _, by omega, by go_num, by rw [hst]; exact Lib.hid (by simp), hB4, K4, q4⟩
        case measure => simp [intOf]; omega
    · obtain rfl : j = N := by omega
      have hn0 : ¬ (j : Int) < (j : Int) := by omega
      have hq : L = l ++ blankS F := by rw [hLq.out, List.take_of_length_le (by rw [hFl.out]; exact Nat.le_refl _)]
      subst hq
      go_wp2
      refine bodyPost_ret (results_none rfl _ _ _) rfl ?_
      exact ⟨rfl, hB0, K0⟩
set_option maxRecDepth 100000 in
set_option maxHeartbeats 8000000 in
theorem wv3 (sh nu : List Int) (it : List Arr) (v : Value) (N : Nat) (hN : N = (elsT (.mk 3 sh nu it)).length) (hN2 : N ≤ 66000) (hI : ∀ j (hj : j < it.length), WrA it[j]) (w : World) (X : Nat) (l : List UInt8) (hl : l.length + (vecS 3 nu (elsT (.mk 3 sh nu it))).length ≤ 700000) (hT : Tok.TZ w) (hg : 3 < X) (h : Bld w X l) (hA : AA X w v (.mk 3 sh nu it)) :
    Calls Tryd.prog 56 #[.pointer (some ⟨X, 0, none⟩), v] w (Wrote w X (l ++ vecS 3 nu (elsT (.mk 3 sh nu it)))) := by
  have hA0 := hA
  obtain ⟨E, hE⟩ : ∃ E, Hid (elsT (.mk 3 sh nu it) = E) := ⟨_, rfl⟩
  have hEv : vecS 3 nu E = blankS (E.map fun t => ([40] : List UInt8) ++ t ++ [41]) := by
    rw [vecS]; rw [if_neg (by decide), if_pos rfl]; rfl
  have SC : ∀ (i : Nat) (hi : i < E.length) (w : World) (l : List UInt8), l.length + (E[i]).length ≤ 700000 → Tok.TZ w → Bld w X l → AA X w v (.mk 3 sh nu it) → Calls Tryd.prog 57 #[.pointer (some ⟨X, 0, none⟩), v, .int .i64 (i : Int)] w (Wrote w X (l ++ E[i])) := by
    intro i hi w l h1 h2 h3 h4
    have e := hE.out
    subst e
    exact writeScalarQ (.mk 3 sh nu it) v i (by simp [Arr.kind]) (fun q => by simp [Arr.kind] at q) (fun _ => hI) hi w X l h1 h2 hg h3 h4
  rw [hE.out] at hl hN ⊢
  rw [hEv] at hl ⊢
  clear hEv
  have hA' := hA
  rw [AA, ArrOn] at hA'
  obtain ⟨sa, sc, na, nc, ia, ic, rfl, hk, hs, hn, h1, h2, b, off, ha, hc⟩ := hA'
  have bw := below_new w (.cells #[.int .i64 3, .slice sa sh.length sc, .slice na nu.length nc, .slice ia it.length ic] 26)
  have k0 : Kp X w (w.alloc (.cells #[.int .i64 3, .slice sa sh.length sc, .slice na nu.length nc, .slice ia it.length ic] 26)) := (Kp.refl X w).below (Nat.le_of_lt h.lt) bw
  have hB := h.below bw
  have q0 := Quad.new w (.int .i64 3) (.slice sa sh.length sc) (.slice na nu.length nc) (.slice ia it.length ic)
  have hlt := h.lt
  have hne : w.heap.size ≠ X := Nat.ne_of_gt hlt
  have cZ := sizeQ _ (.mk 3 sh nu it) _ (AA.at (AA.keep hA0 k0))
  have hz : (aSize (.mk 3 sh nu it) : Int) = (N : Int) := by
    rw [hN, ← hE.out, els_len (A := .mk 3 sh nu it) (by simp [Arr.kind])]
  rw [hz] at cZ
  clear hs hn h1 h2 ha hc hk hA hz hE
  obtain ⟨F, hF⟩ : ∃ F : List (List UInt8), Hid (E.map (fun t => ([40] : List UInt8) ++ t ++ [41]) = F) := ⟨_, Lib.hid rfl⟩
  rw [hF.out] at hl ⊢
  have hFl : Hid (F.length = N) := by unfold Hid; rw [← hF.out, List.length_map, hN]
  have hpre := fun j => blank_take F j
  have hN0 := Lib.hid hN
  clear hN
  go_enter Tryd.func56, Tryd.ntmps56
  go_wp2_with (go_at_call 21; (with_reducible refine cZ.mono ?_); rintro e1 w1 ⟨rfl, b1⟩; have K1 := Kp.below k0 (Nat.le_of_lt hB.lt) b1; have hB1 := Bld.below hB b1; have q1 := Quad.below b1 q0)
  go_loopw [19] (fun i wr => ∃ (j : Nat) (L : List UInt8), j ≤ N ∧ i = .int .i64 (j : Int) ∧ Hid (L = l ++ blankS (F.take j)) ∧ Bld wr X L ∧ Kp X w wr ∧ Quad wr w.heap.size (.int .i64 3) (.slice sa sh.length sc) (.slice na nu.length nc) (.slice ia it.length ic)) (fun i _ => N - (intOf i).toNat)
  case atStart => exact ⟨0, l, Nat.zero_le _, rfl, Lib.hid (by simp [blankS]), hB1, K1, q1⟩
  case round =>
    clear hB1 K1 q1 b1 hB q0 k0 bw cZ
    obtain ⟨j, L, hj, rfl, hLq, hB0, K0, q00⟩ := hrel
    by_cases hlt2 : j < N
    · have hlt' : (j : Int) < (N : Int) := by omega
      have hjE : j < E.length := by rw [← hN0.out]; exact hlt2
      have hjF : j < F.length := by rw [hFl.out]; exact hlt2
      have hFj : F[j] = [40] ++ E[j] ++ [41] := by
        have e := hF.out
        subst e
        simp
      have hlen : (l ++ blankS (F.take j)).length + 2 + (E[j]).length ≤ 700000 := by
        have h1 := hpre (j + 1)
        have h2 := blank_step F j hjF
        rw [h2, hFj] at h1
        by_cases h0 : j = 0
        · subst h0; simp [blankS] at *; omega
        · rw [if_neg h0] at h1
          simp only [List.length_append, List.length_cons, List.length_nil] at h1 hl ⊢
          omega
      have hst0 : l ++ blankS (F.take (j + 1)) = if j = 0 then L ++ ([40] ++ E[j] ++ [41]) else L ++ [32] ++ ([40] ++ E[j] ++ [41]) := by
        rw [hLq.out, blank_step F j hjF, hFj]
        split
        · rename_i h0; subst h0; simp [blankS]
        · simp
      rw [← hLq.out] at hlen
      have hT0 := fun w' (k : Kp X w w') => tz_kp hT hg k
      have cS0 : ∀ (w' : World) (l' : List UInt8), l'.length + (E[j]).length ≤ 700000 → Kp X w w' → Bld w' X l' → Calls Tryd.prog 57 #[.pointer (some ⟨X, 0, none⟩), .agg #[.int .i64 3, .slice sa sh.length sc, .slice na nu.length nc, .slice ia it.length ic], .int .i64 (j : Int)] w' (Wrote w' X (l' ++ E[j])) := fun w' l' h1 h2 h3 => SC j hjE w' l' h1 (hT0 w' h2) h3 (AA.keep hA0 h2)
      have hL1 : L.length ≤ 1000000 := by omega
      generalize E[j] = T at *
      have hLn : ∀ l' : List UInt8, l'.length ≤ L.length + 1 → l'.length ≤ 1000000 := fun l' h => by omega
      have hLs : ∀ l' : List UInt8, l'.length ≤ L.length + 2 → l'.length + T.length ≤ 700000 := fun l' h => by omega
      have hLt : ∀ l' : List UInt8, l'.length ≤ L.length + 2 + T.length → l'.length ≤ 1000000 := fun l' h => by omega
      clear SC hFj hT0 hjE hjF hpre hlen hLq
      by_cases h0 : j = 0
      · rw [if_pos h0] at hst0
        have hst := hst0
        clear hst0
        have hj0 : ¬ (0 : Int) < (j : Int) := by omega
        clear h0
        go_wp2_with (first
          | (go_at_call 48; (with_reducible refine (wrL _ X L [40] (by decide) (hLn _ (by first | rfl | simp)) hB0).mono ?_); rintro e2 w2 ⟨⟨n2, rfl⟩, hB2, k2⟩; have K2 := Kp.trans K0 k2; have q2 := Quad.kp q00 hne k2; obtain ⟨y0, y1, y2, y3, -⟩ := Quad.cells q2; have cS := cS0 w2 _ (hLs _ (by first | (simp; done) | (simp; omega))) K2 hB2)
          | (go_at_call 57; (with_reducible refine cS.mono ?_); rintro e3 w3 ⟨rfl, hB3, k3⟩; have K3 := Kp.trans K2 k3; have q3 := Quad.kp q2 hne k3)
          | (go_at_call 48; (with_reducible refine (wrL _ X (L ++ [40] ++ T) [41] (by decide) (hLt _ (by first | (simp; done) | (simp; omega))) hB3).mono ?_); rintro e4 w4 ⟨⟨n4, rfl⟩, hB4, k4⟩; have K4 := Kp.trans K3 k4; have q4 := Quad.kp q3 hne k4))
        go_roundw
        case rel => exact ⟨j + 1, _, by omega, by go_num, by rw [hst]; exact Lib.hid (by simp), hB4, K4, q4⟩
        case measure => simp [intOf]; omega
      · rw [if_neg h0] at hst0
        have hst := hst0
        clear hst0
        have hj0 : (0 : Int) < (j : Int) := by omega
        clear h0
        go_wp2_with (first
          | (go_at_call 71; (with_reducible refine (wr32 _ X L hL1 hB0).mono ?_); rintro e1 w1 ⟨rfl, hB1, k1⟩; have K1 := Kp.trans K0 k1; have q1 := Quad.kp q00 hne k1)
          | (go_at_call 48; (with_reducible refine (wrL _ X (L ++ [32]) [40] (by decide) (hLn _ (by first | rfl | simp)) hB1).mono ?_); rintro e2 w2 ⟨⟨n2, rfl⟩, hB2, k2⟩; have K2 := Kp.trans K1 k2; have q2 := Quad.kp q1 hne k2; obtain ⟨y0, y1, y2, y3, -⟩ := Quad.cells q2; have cS := cS0 w2 _ (hLs _ (by first | (simp; done) | (simp; omega))) K2 hB2)
          | (go_at_call 57; (with_reducible refine cS.mono ?_); rintro e3 w3 ⟨rfl, hB3, k3⟩; have K3 := Kp.trans K2 k3; have q3 := Quad.kp q2 hne k3)
          | (go_at_call 48; (with_reducible refine (wrL _ X ((L ++ [32]) ++ [40] ++ T) [41] (by decide) (hLt _ (by first | (simp; done) | (simp; omega))) hB3).mono ?_); rintro e4 w4 ⟨⟨n4, rfl⟩, hB4, k4⟩; have K4 := Kp.trans K3 k4; have q4 := Quad.kp q3 hne k4))
        go_roundw
        case rel => exact ⟨j + 1, _, by omega, by go_num, by rw [hst]; exact Lib.hid (by simp), hB4, K4, q4⟩
        case measure => simp [intOf]; omega
    · obtain rfl : j = N := by omega
      have hn0 : ¬ (j : Int) < (j : Int) := by omega
      have hq : L = l ++ blankS F := by rw [hLq.out, List.take_of_length_le (by rw [hFl.out]; exact Nat.le_refl _)]
      subst hq
      go_wp2
      refine bodyPost_ret (results_none rfl _ _ _) rfl ?_
      exact ⟨rfl, hB0, K0⟩
set_option maxRecDepth 100000 in
set_option maxHeartbeats 8000000 in
theorem wv2 (sh nu : List Int) (it : List Arr) (v : Value) (hch : ∀ x ∈ nu, 0 ≤ x ∧ x ≤ 1114111) (hn0 : nu.length ≤ 66000) (w : World) (X : Nat) (l : List UInt8) (hl : l.length + 12 * nu.length ≤ 890000) (hT : Tok.TZ w) (hg : 3 < X) (h : Bld w X l) (hA : AA X w v (.mk 2 sh nu it)) :
    Calls Tryd.prog 56 #[.pointer (some ⟨X, 0, none⟩), v] w (Wrote w X (l ++ quoS nu)) := by
  have hA' := hA
  rw [AA, ArrOn] at hA'
  obtain ⟨sa, sc, na, nc, ia, ic, rfl, hk, hs, hn, h1, h2, b, off, ha, hc⟩ := hA'
  have bw := below_new w (.cells #[.int .i64 2, .slice sa sh.length sc, .slice na nu.length nc, .slice ia it.length ic] 26)
  have k0 : Kp X w (w.alloc (.cells #[.int .i64 2, .slice sa sh.length sc, .slice na nu.length nc, .slice ia it.length ic] 26)) := (Kp.refl X w).below (Nat.le_of_lt h.lt) bw
  have hB := h.below bw
  have q0 := Quad.new w (.int .i64 2) (.slice sa sh.length sc) (.slice na nu.length nc) (.slice ia it.length ic)
  have hlt := h.lt
  have hne : w.heap.size ≠ X := Nat.ne_of_gt hlt
  have e : quoQ 34 nu = quoS nu := by
    rw [quoQ, enc_34, quoS]; simp
  have cQ : Calls Tryd.prog 70 #[.pointer (some ⟨X, 0, none⟩), .int .i32 34, .slice na nu.length nc] (w.alloc (.cells #[.int .i64 2, .slice sa sh.length sc, .slice na nu.length nc, .slice ia it.length ic] 26)) (Wrote (w.alloc (.cells #[.int .i64 2, .slice sa sh.length sc, .slice na nu.length nc, .slice ia it.length ic] 26)) X (l ++ quoS nu)) := by
    have := writeQuotedQ 34 (by decide) na nc nu hch hn0 _ X l hl (tz_kp hT hg k0) hg hB (II.keep hn k0)
    rw [e] at this
    exact this
  clear hs hn h1 h2 ha hc hk e
  go_enter Tryd.func56, Tryd.ntmps56
  go_wp2_with (go_at_call 70; (with_reducible refine cQ.mono ?_); rintro e1 w1 ⟨rfl, h3, k3⟩)
  refine bodyPost_ret (results_none rfl _ _ _) rfl ?_
  exact ⟨rfl, h3, k0.trans k3⟩
end Go.Proofs.YtngcahaidlgkfaaDoor.Shape

namespace Go.Proofs.YtngcahaidlgkfaaDoor.Shape
open Go.RowKit Go.Proofs.YtngcahaidlgkfaaDoor.Num
set_option linter.unusedVariables false
set_option linter.unusedSimpArgs false

set_option maxRecDepth 100000 in
set_option maxHeartbeats 2000000 in
theorem validO (v : Value) (A : Arr) (w : World) (h : ArrAt w v A) (hr : Reach A) (hx0 : rightE A = 0) : Calls Tryd.prog 84 #[v] w (GiveOwn A w) := by
  have hA := h
  obtain ⟨k, sa, ls, sc, na, ln, nc, ia, li, ic, rfl⟩ : ∃ k sa ls sc na ln nc ia li ic, v = .agg #[.int .i64 k, .slice sa ls sc, .slice na ln nc, .slice ia li ic] := by
    obtain ⟨k, sh, nu, it⟩ := A
    rw [ArrAt] at h
    obtain ⟨sa, sc, na, nc, ia, ic, rfl, -⟩ := h
    exact ⟨_, _, _, _, _, _, _, _, _, _, rfl⟩
  have bw := below_two w (.cells #[.int .i64 k, .slice sa ls sc, .slice na ln nc, .slice ia li ic] 26) (.cells #[.int .i64 0, .slice none 0 0, .slice none 0 0, .slice none 0 0] 26)
  have hA1 := hA.below bw
  have q1 := (Quad.new w (.int .i64 k) (.slice sa ls sc) (.slice na ln nc) (.slice ia li ic)).below (below_new _ (.cells #[.int .i64 0, .slice none 0 0, .slice none 0 0, .slice none 0 0] 26))
  have q2 : Quad ((w.alloc (.cells #[.int .i64 k, .slice sa ls sc, .slice na ln nc, .slice ia li ic] 26)).alloc (.cells #[.int .i64 0, .slice none 0 0, .slice none 0 0, .slice none 0 0] 26)) (w.heap.size + 1) (.int .i64 0) (.slice none 0 0) (.slice none 0 0) (.slice none 0 0) := by
    simpa using Quad.new (w.alloc (.cells #[.int .i64 k, .slice sa ls sc, .slice na ln nc, .slice ia li ic] 26)) (.int .i64 0) (.slice none 0 0) (.slice none 0 0) (.slice none 0 0)
  have bz : ((w.alloc (.cells #[.int .i64 k, .slice sa ls sc, .slice na ln nc, .slice ia li ic] 26)).alloc (.cells #[.int .i64 0, .slice none 0 0, .slice none 0 0, .slice none 0 0] 26)).heap.size = w.heap.size + 2 := by simp
  obtain ⟨x, hx⟩ : ∃ x, rightE A = x := ⟨_, rfl⟩
  have R := fun v' w' (g : ArrAt w' v' A) => rightQ v' A w' g
  rw [hx] at R
  have B := bz
  clear bz
  obtain rfl : x = 0 := by rw [← hx, hx0]
  clear hx hx0
  have HB : Hid _ := B
  clear B
  go_enter Tryd.func84, Tryd.ntmps84
  go_wp2_with (first
    | (go_at_call 18; refine (R _ _ hA1).mono ?_; rintro e w1 ⟨rfl, hb1⟩; (obtain ⟨p0, p1, p2, p3, -⟩ := (q1.below hb1).cells))
    | (go_at_call 87; refine (cloneO _ _ _ (hA1.below hb1) hr).mono ?_; rintro e w2 ⟨k', sa', ls', sc', na', ln', nc', ia', li', ic', rfl, hO, hb2⟩; (obtain ⟨s0, s1, s2, s3, s4, s5, s6, s7⟩ := ((q2.below hb1).below hb2).cells)))
  have q3 := (q2.below hb1).below hb2
  have hb := HB.out
  have hs1 := hb1.size
  have G := own_set4 (w := w) (R := w.heap.size + 1) (by omega) (by omega) q3 hO (Below.then (Below.then bw hb1) hb2)
  obtain ⟨QW, -⟩ := set4 q3 (.int .i64 k') (.slice sa' ls' sc') (.slice na' ln' nc') (.slice ia' li' ic')
  generalize ((((w2.setCell ⟨w.heap.size + 1, 0, none⟩ (.int .i64 k')).setCell ⟨w.heap.size + 1, 1, none⟩ (.slice sa' ls' sc')).setCell ⟨w.heap.size + 1, 2, none⟩ (.slice na' ln' nc')).setCell ⟨w.heap.size + 1, 3, none⟩ (.slice ia' li' ic')) = WW at QW G ⊢
  obtain ⟨z0, z1, z2, z3, -⟩ := QW.cells
  exact bodyPost_ret (v := .agg #[.int .i64 k', .slice sa' ls' sc', .slice na' ln' nc', .slice ia' li' ic']) (by simp [results, Tryd.results84, go_sem, z0, z1, z2, z3]) rfl G

set_option maxRecDepth 100000 in
set_option maxHeartbeats 2000000 in
theorem boxO (v : Value) (A : Arr) (w : World) (h : ArrAt w v A) (hA : Reach A) (hx0 : rightE (.mk 3 [] [] [A]) = 0) : Calls Tryd.prog 73 #[v] w (GiveOwn (.mk 3 [] [] [A]) w) := by
  have h0 := h
  obtain ⟨c0, c1, c2, c3, rfl, hc0, hc1, hc2, hc3⟩ : ∃ c0 c1 c2 c3 : Value, v = .agg #[c0, c1, c2, c3] ∧ (∃ k, c0 = .int .i64 k) ∧ (∃ a n c, c1 = .slice a n c) ∧ (∃ a n c, c2 = .slice a n c) ∧ (∃ a n c, c3 = .slice a n c) := by
    obtain ⟨k, sh, nu, it⟩ := A
    rw [ArrAt] at h
    obtain ⟨sa, sc, na, nc, ia, ic, rfl, -⟩ := h
    exact ⟨_, _, _, _, rfl, ⟨_, rfl⟩, ⟨_, _, _, rfl⟩, ⟨_, _, _, rfl⟩, ⟨_, _, _, rfl⟩⟩
  clear h
  have bw := below_three w (.cells #[c0, c1, c2, c3] 26) (.cells #[.int .i64 0, .slice none 0 0, .slice none 0 0, .slice none 0 0] 26) (.cells #[c0, c1, c2, c3] 26)
  have hr : Reach (.mk 3 [] [] [A]) := by rw [Reach]; exact ⟨by simp, by simp, by simp, by rw [ReachL, ReachL]; exact ⟨hA, trivial⟩⟩
  have q9 : Quad (((w.alloc (.cells #[c0, c1, c2, c3] 26)).alloc (.cells #[.int .i64 0, .slice none 0 0, .slice none 0 0, .slice none 0 0] 26)).alloc (.cells #[c0, c1, c2, c3] 26)) (w.heap.size + 2) c0 c1 c2 c3 := by simpa using Quad.new ((w.alloc (.cells #[c0, c1, c2, c3] 26)).alloc (.cells #[.int .i64 0, .slice none 0 0, .slice none 0 0, .slice none 0 0] 26)) c0 c1 c2 c3
  obtain ⟨m0, m1, m2, m3, -⟩ := q9.cells
  have hA1 : ArrAt (((w.alloc (.cells #[c0, c1, c2, c3] 26)).alloc (.cells #[.int .i64 0, .slice none 0 0, .slice none 0 0, .slice none 0 0] 26)).alloc (.cells #[c0, c1, c2, c3] 26)) (.agg #[.int .i64 3, .slice none 0 0, .slice none 0 0, .slice (some ⟨w.heap.size + 1 + 1, 0, none⟩) 1 1]) (.mk 3 [] [] [A]) :=
    arr_boxed (c0 := c0) (c1 := c1) (c2 := c2) (c3 := c3) ⟨m0, m1, m2, m3⟩ (h0.below bw) (by decide) (by decide)
  clear q9 m0 m1 m2 m3
  have q2 : Quad (((w.alloc (.cells #[c0, c1, c2, c3] 26)).alloc (.cells #[.int .i64 0, .slice none 0 0, .slice none 0 0, .slice none 0 0] 26)).alloc (.cells #[c0, c1, c2, c3] 26)) (w.heap.size + 1) (.int .i64 0) (.slice none 0 0) (.slice none 0 0) (.slice none 0 0) := by simpa using (Quad.new (w.alloc (.cells #[c0, c1, c2, c3] 26)) (.int .i64 0) (.slice none 0 0) (.slice none 0 0) (.slice none 0 0)).below (below_new _ (.cells #[c0, c1, c2, c3] 26))
  have HB : Hid ((((w.alloc (.cells #[c0, c1, c2, c3] 26)).alloc (.cells #[.int .i64 0, .slice none 0 0, .slice none 0 0, .slice none 0 0] 26)).alloc (.cells #[c0, c1, c2, c3] 26)).heap.size = w.heap.size + 3) := by unfold Hid; simp
  obtain ⟨k, rfl⟩ := hc0
  obtain ⟨sa, ls, sc, rfl⟩ := hc1
  obtain ⟨na, ln, nc, rfl⟩ := hc2
  obtain ⟨ia, li, ic, rfl⟩ := hc3
  go_enter Tryd.func73, Tryd.ntmps73
  go_wp2_with (go_at_call 84; refine (validO _ _ _ hA1 hr hx0).mono ?_; rintro e w2 ⟨k', sa', ls', sc', na', ln', nc', ia', li', ic', rfl, hO, hb2⟩; (obtain ⟨s0, s1, s2, s3, s4, s5, s6, s7⟩ := (q2.below hb2).cells))
  have q3 := q2.below hb2
  have hb := HB.out
  have G := own_set4 (w := w) (R := w.heap.size + 1) (by omega) (by omega) q3 hO (Below.then bw hb2)
  obtain ⟨QW, -⟩ := set4 q3 (.int .i64 k') (.slice sa' ls' sc') (.slice na' ln' nc') (.slice ia' li' ic')
  generalize ((((w2.setCell ⟨w.heap.size + 1, 0, none⟩ (.int .i64 k')).setCell ⟨w.heap.size + 1, 1, none⟩ (.slice sa' ls' sc')).setCell ⟨w.heap.size + 1, 2, none⟩ (.slice na' ln' nc')).setCell ⟨w.heap.size + 1, 3, none⟩ (.slice ia' li' ic')) = WW at QW G ⊢
  obtain ⟨z0, z1, z2, z3, -⟩ := QW.cells
  exact bodyPost_ret (v := .agg #[.int .i64 k', .slice sa' ls' sc', .slice na' ln' nc', .slice ia' li' ic']) (by simp [results, Tryd.results73, go_sem, z0, z1, z2, z3]) rfl G
theorem right_b0 : rightE (.mk 3 [] [] [.mk 1 [0] [] []]) = 0 := by kernel_rfl
theorem box_O {v : Value} {w : World} (h : ArrAt w v (.mk 1 [0] [] [])) : Calls Tryd.prog 73 #[v] w (GiveOwn (.mk 3 [] [] [.mk 1 [0] [] []]) w) :=
  boxO v _ w h (reach_plain (by decide) (by decide)) right_b0
set_option maxRecDepth 100000 in
set_option maxHeartbeats 2000000 in
theorem fillO (v : Value) (A : Arr) (w : World) (h : ArrAt w v A) (k3 : A.kind = 3) : Calls Tryd.prog 58 #[v] w (GiveOwn (.mk 3 [] [] [.mk 1 [0] [] []]) w) := by
  obtain ⟨k, sh, nu, it⟩ := A
  simp only [Arr.kind] at k3
  rw [ArrAt] at h
  obtain ⟨sa, sc, na, nc, ia, ic, rfl, hk, -⟩ := h
  have bw := below_two w (.cells #[.int .i64 k, .slice sa sh.length sc, .slice na nu.length nc, .slice ia it.length ic] 26) (.cells #[.int .i64 0, .slice none 0 0, .slice none 0 0, .slice none 0 0] 26)
  have q2 : Quad ((w.alloc (.cells #[.int .i64 k, .slice sa sh.length sc, .slice na nu.length nc, .slice ia it.length ic] 26)).alloc (.cells #[.int .i64 0, .slice none 0 0, .slice none 0 0, .slice none 0 0] 26)) (w.heap.size + 1) (.int .i64 0) (.slice none 0 0) (.slice none 0 0) (.slice none 0 0) := by simpa using Quad.new (w.alloc (.cells #[.int .i64 k, .slice sa sh.length sc, .slice na nu.length nc, .slice ia it.length ic] 26)) (.int .i64 0) (.slice none 0 0) (.slice none 0 0) (.slice none 0 0)
  have bz : Hid (((w.alloc (.cells #[.int .i64 k, .slice sa sh.length sc, .slice na nu.length nc, .slice ia it.length ic] 26)).alloc (.cells #[.int .i64 0, .slice none 0 0, .slice none 0 0, .slice none 0 0] 26)).heap.size = w.heap.size + 2) := by unfold Hid; simp
  subst k3
  go_enter Tryd.func58, Tryd.ntmps58
  go_wp2_with (first
    | (go_at_call 74; refine (vector_0 _).mono ?_; intro e w1 hV; (obtain ⟨vk, va, vl, vc, vna, vnl, vnc, via, vil, vic, rfl, hVO, hb1⟩ := hV.form))
    | (go_at_call 73; refine (box_O hVO.at).mono ?_; rintro e w2 ⟨k', sa', ls', sc', na', ln', nc', ia', li', ic', rfl, hO, hb2⟩; (obtain ⟨s0, s1, s2, s3, s4, s5, s6, s7⟩ := ((q2.below hb1).below hb2).cells)))
  have q3 := (q2.below hb1).below hb2
  have hb := bz.out
  have hs1 := hb1.size
  have G := own_set4 (w := w) (R := w.heap.size + 1) (by omega) (by omega) q3 hO (Below.then (Below.then bw hb1) hb2)
  obtain ⟨QW, -⟩ := set4 q3 (.int .i64 k') (.slice sa' ls' sc') (.slice na' ln' nc') (.slice ia' li' ic')
  generalize ((((w2.setCell ⟨w.heap.size + 1, 0, none⟩ (.int .i64 k')).setCell ⟨w.heap.size + 1, 1, none⟩ (.slice sa' ls' sc')).setCell ⟨w.heap.size + 1, 2, none⟩ (.slice na' ln' nc')).setCell ⟨w.heap.size + 1, 3, none⟩ (.slice ia' li' ic')) = WW at QW G ⊢
  obtain ⟨z0, z1, z2, z3, -⟩ := QW.cells
  exact bodyPost_ret (v := .agg #[.int .i64 k', .slice sa' ls' sc', .slice na' ln' nc', .slice ia' li' ic']) (by simp [results, Tryd.results58, go_sem, z0, z1, z2, z3]) rfl G

/-- Such an array lies apart from a builder. -/
theorem own_aw {X : Nat} {w w' : World} (hX : X < w.heap.size) {v : Value} {A : Arr} (h : ArrOn (Own w w') w' v A) : AA X w' v A :=
  h.mono fun g ⟨h1, cs, t, h2⟩ => Or.inr ⟨by omega, _, h2, fun c fz e => by injection e with e1 e2 e3; exact t.2 e2⟩
end Go.Proofs.YtngcahaidlgkfaaDoor.Shape

namespace Go.Proofs.YtngcahaidlgkfaaDoor.Shape
open Go.RowKit Go.Proofs.YtngcahaidlgkfaaDoor.Num
set_option linter.unusedVariables false
set_option maxRecDepth 100000

/-- The last k digits of N, the first one being of weight 10 ^ (k - 1). -/
def dgs (N : Nat) : Nat → List UInt8
  | 0 => []
  | k + 1 => dig (N / 10 ^ k) :: dgs N k
theorem dgs_last (N k : Nat) : dgs N (k + 1) = dgs (N / 10) k ++ [dig N] := by
  induction k with
  | zero => simp [dgs]
  | succ k ih =>
    rw [dgs, ih, dgs, List.cons_append, Nat.pow_succ, Nat.mul_comm, ← Nat.div_div_eq_div_mul]
theorem dg_dgs : ∀ (e N : Nat), (e = 0 ∨ 10 ^ e ≤ N) → N / 10 ^ e < 10 → dg N = dgs N (e + 1)
  | 0, N, _, h => by
    rw [Nat.pow_zero, Nat.div_one] at h
    rw [dg_last h]; simp [dgs]
  | e + 1, N, h0, h => by
    have h1 : 10 ^ (e + 1) ≤ N := by rcases h0 with h0 | h0; cases h0; exact h0
    rw [Nat.pow_succ] at h1
    rw [Nat.pow_succ, Nat.mul_comm, ← Nat.div_div_eq_div_mul] at h
    have hp : 0 < 10 ^ e := Nat.pow_pos (by decide)
    rw [dg_more (by omega), dgs_last, dg_dgs e (N / 10) (Or.inr (by omega)) h]

set_option maxHeartbeats 400000 in
theorem leadP (N : Nat) (hN : N ≤ 9223372036854775808) (w : World) :
    Calls Tryd.prog 69 #[.int .u64 N] w fun en w' => ∃ e P : Nat, Hid (P = 10 ^ e) ∧ en = .returned (.int .u64 (P : Int)) ∧ (e = 0 ∨ P ≤ N) ∧ N / P < 10 ∧ w = w' := by
  go_enter Tryd.func69, Tryd.ntmps69
  go_wp2
  go_loop [3] (fun u => ∃ e P : Nat, P = 10 ^ e ∧ u = .int .u64 (P : Int) ∧ (e = 0 ∨ P ≤ N)) (fun u => N / (intOf u).toNat)
  case atStart => exact ⟨0, 1, rfl, rfl, Or.inl rfl⟩
  case round =>
    obtain ⟨e, P, hP, rfl, he⟩ := hrel
    have hp : 1 ≤ P := by rw [hP]; exact Nat.pow_pos (by decide)
    have q0 : Int.tdiv (N : Int) (P : Int) = ((N / P : Nat) : Int) := by rw [Int.tdiv_eq_ediv_of_nonneg (by omega)]; rfl
    have HP : Hid (P = 10 ^ e) := hP
    clear hP
    have hmul := Nat.div_mul_le_self N P
    have hne : (P : Int) ≠ 0 := by omega
    have hQN : N / P ≤ N := Nat.div_le_self _ _
    have hwq : IntKind.u64.wrap ((N / P : Nat) : Int) = ((N / P : Nat) : Int) := by
      generalize N / P = Q at hQN
      exact IntWalk.u64_in _ (by omega)
    by_cases hq : 10 ≤ N / P
    · have hle : P * 10 ≤ N := by
        have : P * 10 ≤ N / P * P := by rw [Nat.mul_comm (N / P) P]; exact Nat.mul_le_mul_left _ hq
        omega
      have hdec : Hid (N / (P * 10) < N / P) := by
        unfold Hid
        rw [← Nat.div_div_eq_div_mul]; omega
      generalize hQe : N / P = Q at q0 hq hdec hQN hwq ⊢
      have HQe : Hid (N / P = Q) := hQe
      clear hQe
      clear hmul
      go_wp2
      refine ⟨⟨e + 1, P * 10, by rw [HP.out, Nat.pow_succ], rfl, Or.inr hle⟩, ?_⟩
      have h1 : (intOf (Value.int IntKind.u64 ((P : Int) * 10))).toNat = P * 10 := by simp only [intOf]; omega
      have h2 : (intOf (Value.int IntKind.u64 (P : Int))).toNat = P := by simp only [intOf]; omega
      rw [h1, h2, HQe.out]; exact hdec.out
    · have HQ : Hid (N / P < 10) := by unfold Hid; omega
      have HE : Hid (e = 0 ∨ P ≤ N) := he
      generalize N / P = Q at q0 hq hQN hwq ⊢
      clear hmul he
      go_wp2
      go_ret
      exact ⟨e, P, HP, rfl, HE.out, HQ.out, rfl⟩
theorem dg_abs_len {x : Int} (h1 : -9223372036854775808 ≤ x) (h2 : x ≤ 9223372036854775807) : (dg x.natAbs).length ≤ 19 := dg_len 18 x.natAbs (by omega)

theorem dgs_len (N k : Nat) : (dgs N k).length = k := by
  induction k with
  | zero => rfl
  | succ k ih => simp [dgs, ih]

set_option maxHeartbeats 1000000 in
theorem shapeShowP (a : Option Addr) (cap : Nat) (xs : List Int) (w : World) (h : IntsAt w a cap xs) (hs : xs.length ≤ 2000000) :
    Calls Tryd.prog 55 #[.slice a xs.length cap] w fun e w' => e = .returned (.string (jS xs)) ∧ Below w.heap.size w w' := by
  have hl := h.len
  have hlen : ∀ k, (jn (xs.take k)).length ≤ 42000000 := fun k => jn_len xs k h.2.2.1 hs
  go_enter Tryd.func55, Tryd.ntmps55
  go_wp2_with fail
  go_step3
  go_wp2_with fail
  go_step3
  go_wp2_with fail
  go_loopw [3, 10] (fun v i wr => ∃ (k : Nat) (L : List UInt8), k ≤ xs.length ∧ i = .int .i64 k ∧ Hid (L = jn (xs.take k)) ∧ wr.ownsRow w.heap.size 5 1 v L.length (bc L) ∧ Below w.heap.size w wr) (fun _ i _ => xs.length - (intOf i).toNat)
  case atStart => exact ⟨0, [], Nat.zero_le _, rfl, rfl, World.ownsRow_nil _ _ _ _, Below.refl _ _⟩
  case round =>
    obtain ⟨k, L, hk, rfl, hL, hown, hbel⟩ := hrel
    by_cases hlt : k < xs.length
    · obtain ⟨b, off, hi, hc⟩ := (h.below hbel).at hlt
      have hbd := h.bd hlt
      have hLl : L.length ≤ 42000000 := by rw [hL.out]; exact hlen k
      have hdl := dg_abs_len hbd.1 hbd.2
      generalize hN : xs[k].natAbs = N at hdl
      have HDL : Hid ((dg N).length ≤ 19) := hdl
      clear hdl
      by_cases hx : xs[k] < 0
      · by_cases h0 : k = 0
        · have HJ : Hid (jn (xs.take (k + 1)) = (L ++ [95]) ++ dg N) := by
            unfold Hid
            have e0 : L = [] := by rw [hL.out, h0]; rfl
            subst h0
            rw [jn_first hlt, e0, shL_neg hx, hN]; rfl
          have hk0 : k < 1 := by omega
          have e64 : IntKind.u64.wrap xs[k] = 18446744073709551616 - (N : Int) := by simp [IntKind.wrap, IntKind.signed, IntKind.bits]; omega
          have e65 : IntKind.u64.wrap (-(18446744073709551616 - (N : Int))) = (N : Int) := by simp [IntKind.wrap, IntKind.signed, IntKind.bits]; omega
          have hNb : N ≤ 9223372036854775808 := by omega
          clear hN h0 hL
          go_wp2_with (first
            | (at_builtin; refine wpList_append_byte rfl _ _ rfl w _ _ rfl _ rfl L hown hbel 95 rfl rfl (by first | omega | (simp; omega)) ?_; intro v2 w2 hown2 hbel2)
            | (go_at_call 69; refine (leadP N hNb _).mono ?_; rintro e w' ⟨E, P, HP, rfl, hE, hQ, rfl⟩))
          generalize hPL : (L ++ [95]) = PL at HJ hown2
          have hPb : PL.length ≤ 42000002 := by rw [← hPL]; first | omega | (simp; omega)
          clear hPL
          have HD0 : Hid (dg N = [] ++ dgs N (E + 1)) := by unfold Hid; exact dg_dgs E N (by rw [← HP.out]; exact hE) (by rw [← HP.out]; exact hQ)
          clear hE hQ
          go_loopw [3, 7] (fun v u wr2 => ∃ (e Q : Nat) (D : List UInt8), Hid (Q = 10 ^ e) ∧ u = .int .u64 (Q : Int) ∧ Hid (dg N = D ++ dgs N (e + 1)) ∧ wr2.ownsRow w.heap.size 5 1 v (PL ++ D).length (bc (PL ++ D)) ∧ Below w.heap.size w wr2) (fun _ u _ => (intOf u).toNat)
          case atStart => exact ⟨E, P, [], HP, rfl, HD0, by rw [List.append_nil]; exact hown2, hbel2⟩
          case round =>
            clear hown2 hbel2 hc HD0 HP
            obtain ⟨e, Q, D, HQ, rfl, HD, hown5, hbel5⟩ := hrel
            have hQ1 : 1 ≤ Q := by rw [HQ.out]; exact Nat.pow_pos (by decide)
            have hDl : D.length + (e + 1) ≤ 19 := by
              have h1 := HDL.out
              have h2 : (dgs N (e + 1)).length = e + 1 := dgs_len N (e + 1)
              rw [HD.out, List.length_append, h2] at h1; exact h1
            have hQb : Q ≤ 1000000000000000000 := by rw [HQ.out]; exact Nat.le_trans (Nat.pow_le_pow_right (by decide) (by omega : e ≤ 18)) (by decide)
            have hlen5 : (PL ++ D).length ≤ 100000000 := by rw [List.length_append]; omega
            have HDs : Hid (dg N = (D ++ [dig (N / Q)]) ++ dgs N e) := by unfold Hid; rw [HD.out, dgs, HQ.out]; simp
            have q0 : Int.tdiv (N : Int) (Q : Int) = ((N / Q : Nat) : Int) := by rw [Int.tdiv_eq_ediv_of_nonneg (by omega)]; rfl
            have hne : (Q : Int) ≠ 0 := by omega
            have hRN : N / Q ≤ N := Nat.div_le_self _ _
            have hwq : IntKind.u64.wrap ((N / Q : Nat) : Int) = ((N / Q : Nat) : Int) := by
              generalize N / Q = R at hRN
              exact IntWalk.u64_in _ (by omega)
            generalize N / Q = R at q0 hRN hwq HDs
            have hdig := (dig_int R).symm
            by_cases h1 : Q = 1
            · have he0 : e = 0 := by
                rcases Nat.eq_zero_or_pos e with h2 | h2
                · exact h2
                · have : 10 ^ 1 ≤ 10 ^ e := Nat.pow_le_pow_right (by decide) h2
                  have := HQ.out; omega
              have HK : Hid (PL ++ D ++ [dig R] = jn (xs.take (k + 1))) := by unfold Hid; rw [HJ.out, HDs.out, he0]; simp [dgs]
              have h1' : ((Q : Int) == 1) = true := by simp; omega
              clear h1 he0 HD HDs HQ HJ
              go_wp2_with (at_builtin; refine wpList_append_byte rfl _ _ rfl w _ _ rfl _ rfl (PL ++ D) hown5 hbel5 (dig R) rfl rfl hlen5 ?_; intro v6 w6 hown6 hbel6)
              refine ⟨⟨k + 1, PL ++ D ++ [dig R], by omega, by go_num, HK, hown6, hbel6⟩, ?_⟩
              simp [intOf]; omega
            · have h1' : ((Q : Int) == 1) = false := by simp; omega
              obtain ⟨e2, rfl⟩ : ∃ e2, e = e2 + 1 := ⟨e - 1, by
                rcases Nat.eq_zero_or_pos e with h2 | h2
                · exact absurd (by rw [HQ.out, h2]) h1
                · omega⟩
              have HQ2 : Hid (Q / 10 = 10 ^ e2) := by unfold Hid; rw [HQ.out, Nat.pow_succ]; omega
              have q2 : Int.tdiv (Q : Int) 10 = ((Q / 10 : Nat) : Int) := by rw [Int.tdiv_eq_ediv_of_nonneg (by omega)]; rfl
              have hlt10 : Q / 10 < Q := by omega
              generalize Q / 10 = Q2 at HQ2 q2 hlt10
              clear h1 HD HQ HJ
              go_wp2_with (at_builtin; refine wpList_append_byte rfl _ _ rfl w _ _ rfl _ rfl (PL ++ D) hown5 hbel5 (dig R) rfl rfl hlen5 ?_; intro v6 w6 hown6 hbel6)
              refine ⟨⟨e2, Q2, D ++ [dig R], HQ2, rfl, HDs, by rw [← List.append_assoc]; exact hown6, hbel6⟩, ?_⟩
              simp [intOf]; omega
        · have HJ : Hid (jn (xs.take (k + 1)) = (L ++ [32] ++ [95]) ++ dg N) := by
            unfold Hid
            rw [jn_step hlt (by omega), ← hL.out, shL_neg hx, hN]; simp
          have hk0 : 0 < k := by omega
          have e64 : IntKind.u64.wrap xs[k] = 18446744073709551616 - (N : Int) := by simp [IntKind.wrap, IntKind.signed, IntKind.bits]; omega
          have e65 : IntKind.u64.wrap (-(18446744073709551616 - (N : Int))) = (N : Int) := by simp [IntKind.wrap, IntKind.signed, IntKind.bits]; omega
          have hNb : N ≤ 9223372036854775808 := by omega
          clear hN h0 hL
          go_wp2_with (first
            | (at_builtin; refine wpList_append_byte rfl _ _ rfl w _ _ rfl _ rfl L hown hbel 32 rfl rfl (by first | omega | (simp; omega)) ?_; intro v1 w1 hown1 hbel1)
            | (at_builtin; refine wpList_append_byte rfl _ _ rfl w _ _ rfl _ rfl (L ++ [32]) hown1 hbel1 95 rfl rfl (by first | omega | (simp; omega)) ?_; intro v2 w2 hown2 hbel2)
            | (go_at_call 69; refine (leadP N hNb _).mono ?_; rintro e w' ⟨E, P, HP, rfl, hE, hQ, rfl⟩))
          generalize hPL : (L ++ [32] ++ [95]) = PL at HJ hown2
          have hPb : PL.length ≤ 42000002 := by rw [← hPL]; first | omega | (simp; omega)
          clear hPL
          have HD0 : Hid (dg N = [] ++ dgs N (E + 1)) := by unfold Hid; exact dg_dgs E N (by rw [← HP.out]; exact hE) (by rw [← HP.out]; exact hQ)
          clear hE hQ
          go_loopw [3, 7] (fun v u wr2 => ∃ (e Q : Nat) (D : List UInt8), Hid (Q = 10 ^ e) ∧ u = .int .u64 (Q : Int) ∧ Hid (dg N = D ++ dgs N (e + 1)) ∧ wr2.ownsRow w.heap.size 5 1 v (PL ++ D).length (bc (PL ++ D)) ∧ Below w.heap.size w wr2) (fun _ u _ => (intOf u).toNat)
          case atStart => exact ⟨E, P, [], HP, rfl, HD0, by rw [List.append_nil]; exact hown2, hbel2⟩
          case round =>
            clear hown2 hbel2 hc HD0 HP
            obtain ⟨e, Q, D, HQ, rfl, HD, hown5, hbel5⟩ := hrel
            have hQ1 : 1 ≤ Q := by rw [HQ.out]; exact Nat.pow_pos (by decide)
            have hDl : D.length + (e + 1) ≤ 19 := by
              have h1 := HDL.out
              have h2 : (dgs N (e + 1)).length = e + 1 := dgs_len N (e + 1)
              rw [HD.out, List.length_append, h2] at h1; exact h1
            have hQb : Q ≤ 1000000000000000000 := by rw [HQ.out]; exact Nat.le_trans (Nat.pow_le_pow_right (by decide) (by omega : e ≤ 18)) (by decide)
            have hlen5 : (PL ++ D).length ≤ 100000000 := by rw [List.length_append]; omega
            have HDs : Hid (dg N = (D ++ [dig (N / Q)]) ++ dgs N e) := by unfold Hid; rw [HD.out, dgs, HQ.out]; simp
            have q0 : Int.tdiv (N : Int) (Q : Int) = ((N / Q : Nat) : Int) := by rw [Int.tdiv_eq_ediv_of_nonneg (by omega)]; rfl
            have hne : (Q : Int) ≠ 0 := by omega
            have hRN : N / Q ≤ N := Nat.div_le_self _ _
            have hwq : IntKind.u64.wrap ((N / Q : Nat) : Int) = ((N / Q : Nat) : Int) := by
              generalize N / Q = R at hRN
              exact IntWalk.u64_in _ (by omega)
            generalize N / Q = R at q0 hRN hwq HDs
            have hdig := (dig_int R).symm
            by_cases h1 : Q = 1
            · have he0 : e = 0 := by
                rcases Nat.eq_zero_or_pos e with h2 | h2
                · exact h2
                · have : 10 ^ 1 ≤ 10 ^ e := Nat.pow_le_pow_right (by decide) h2
                  have := HQ.out; omega
              have HK : Hid (PL ++ D ++ [dig R] = jn (xs.take (k + 1))) := by unfold Hid; rw [HJ.out, HDs.out, he0]; simp [dgs]
              have h1' : ((Q : Int) == 1) = true := by simp; omega
              clear h1 he0 HD HDs HQ HJ
              go_wp2_with (at_builtin; refine wpList_append_byte rfl _ _ rfl w _ _ rfl _ rfl (PL ++ D) hown5 hbel5 (dig R) rfl rfl hlen5 ?_; intro v6 w6 hown6 hbel6)
              refine ⟨⟨k + 1, PL ++ D ++ [dig R], by omega, by go_num, HK, hown6, hbel6⟩, ?_⟩
              simp [intOf]; omega
            · have h1' : ((Q : Int) == 1) = false := by simp; omega
              obtain ⟨e2, rfl⟩ : ∃ e2, e = e2 + 1 := ⟨e - 1, by
                rcases Nat.eq_zero_or_pos e with h2 | h2
                · exact absurd (by rw [HQ.out, h2]) h1
                · omega⟩
              have HQ2 : Hid (Q / 10 = 10 ^ e2) := by unfold Hid; rw [HQ.out, Nat.pow_succ]; omega
              have q2 : Int.tdiv (Q : Int) 10 = ((Q / 10 : Nat) : Int) := by rw [Int.tdiv_eq_ediv_of_nonneg (by omega)]; rfl
              have hlt10 : Q / 10 < Q := by omega
              generalize Q / 10 = Q2 at HQ2 q2 hlt10
              clear h1 HD HQ HJ
              go_wp2_with (at_builtin; refine wpList_append_byte rfl _ _ rfl w _ _ rfl _ rfl (PL ++ D) hown5 hbel5 (dig R) rfl rfl hlen5 ?_; intro v6 w6 hown6 hbel6)
              refine ⟨⟨e2, Q2, D ++ [dig R], HQ2, rfl, HDs, by rw [← List.append_assoc]; exact hown6, hbel6⟩, ?_⟩
              simp [intOf]; omega
      · by_cases h0 : k = 0
        · have HJ : Hid (jn (xs.take (k + 1)) = L ++ dg N) := by
            unfold Hid
            have e0 : L = [] := by rw [hL.out, h0]; rfl
            subst h0
            rw [jn_first hlt, e0, shL_pos hx, hN]; rfl
          have hk0 : k < 1 := by omega
          have e64 : IntKind.u64.wrap xs[k] = (N : Int) := by rw [IntWalk.u64_in _ (by omega)]; omega
          have hNb : N ≤ 9223372036854775808 := by omega
          clear hN h0 hL
          go_wp2_with (first
            | (go_at_call 69; refine (leadP N hNb _).mono ?_; rintro e w' ⟨E, P, HP, rfl, hE, hQ, rfl⟩))
          generalize hPL : L = PL at HJ hown
          have hPb : PL.length ≤ 42000002 := by rw [← hPL]; first | omega | (simp; omega)
          clear hPL
          have HD0 : Hid (dg N = [] ++ dgs N (E + 1)) := by unfold Hid; exact dg_dgs E N (by rw [← HP.out]; exact hE) (by rw [← HP.out]; exact hQ)
          clear hE hQ
          go_loopw [3, 7] (fun v u wr2 => ∃ (e Q : Nat) (D : List UInt8), Hid (Q = 10 ^ e) ∧ u = .int .u64 (Q : Int) ∧ Hid (dg N = D ++ dgs N (e + 1)) ∧ wr2.ownsRow w.heap.size 5 1 v (PL ++ D).length (bc (PL ++ D)) ∧ Below w.heap.size w wr2) (fun _ u _ => (intOf u).toNat)
          case atStart => exact ⟨E, P, [], HP, rfl, HD0, by rw [List.append_nil]; exact hown, hbel⟩
          case round =>
            clear hown hbel hc HD0 HP
            obtain ⟨e, Q, D, HQ, rfl, HD, hown5, hbel5⟩ := hrel
            have hQ1 : 1 ≤ Q := by rw [HQ.out]; exact Nat.pow_pos (by decide)
            have hDl : D.length + (e + 1) ≤ 19 := by
              have h1 := HDL.out
              have h2 : (dgs N (e + 1)).length = e + 1 := dgs_len N (e + 1)
              rw [HD.out, List.length_append, h2] at h1; exact h1
            have hQb : Q ≤ 1000000000000000000 := by rw [HQ.out]; exact Nat.le_trans (Nat.pow_le_pow_right (by decide) (by omega : e ≤ 18)) (by decide)
            have hlen5 : (PL ++ D).length ≤ 100000000 := by rw [List.length_append]; omega
            have HDs : Hid (dg N = (D ++ [dig (N / Q)]) ++ dgs N e) := by unfold Hid; rw [HD.out, dgs, HQ.out]; simp
            have q0 : Int.tdiv (N : Int) (Q : Int) = ((N / Q : Nat) : Int) := by rw [Int.tdiv_eq_ediv_of_nonneg (by omega)]; rfl
            have hne : (Q : Int) ≠ 0 := by omega
            have hRN : N / Q ≤ N := Nat.div_le_self _ _
            have hwq : IntKind.u64.wrap ((N / Q : Nat) : Int) = ((N / Q : Nat) : Int) := by
              generalize N / Q = R at hRN
              exact IntWalk.u64_in _ (by omega)
            generalize N / Q = R at q0 hRN hwq HDs
            have hdig := (dig_int R).symm
            by_cases h1 : Q = 1
            · have he0 : e = 0 := by
                rcases Nat.eq_zero_or_pos e with h2 | h2
                · exact h2
                · have : 10 ^ 1 ≤ 10 ^ e := Nat.pow_le_pow_right (by decide) h2
                  have := HQ.out; omega
              have HK : Hid (PL ++ D ++ [dig R] = jn (xs.take (k + 1))) := by unfold Hid; rw [HJ.out, HDs.out, he0]; simp [dgs]
              have h1' : ((Q : Int) == 1) = true := by simp; omega
              clear h1 he0 HD HDs HQ HJ
              go_wp2_with (at_builtin; refine wpList_append_byte rfl _ _ rfl w _ _ rfl _ rfl (PL ++ D) hown5 hbel5 (dig R) rfl rfl hlen5 ?_; intro v6 w6 hown6 hbel6)
              refine ⟨⟨k + 1, PL ++ D ++ [dig R], by omega, by go_num, HK, hown6, hbel6⟩, ?_⟩
              simp [intOf]; omega
            · have h1' : ((Q : Int) == 1) = false := by simp; omega
              obtain ⟨e2, rfl⟩ : ∃ e2, e = e2 + 1 := ⟨e - 1, by
                rcases Nat.eq_zero_or_pos e with h2 | h2
                · exact absurd (by rw [HQ.out, h2]) h1
                · omega⟩
              have HQ2 : Hid (Q / 10 = 10 ^ e2) := by unfold Hid; rw [HQ.out, Nat.pow_succ]; omega
              have q2 : Int.tdiv (Q : Int) 10 = ((Q / 10 : Nat) : Int) := by rw [Int.tdiv_eq_ediv_of_nonneg (by omega)]; rfl
              have hlt10 : Q / 10 < Q := by omega
              generalize Q / 10 = Q2 at HQ2 q2 hlt10
              clear h1 HD HQ HJ
              go_wp2_with (at_builtin; refine wpList_append_byte rfl _ _ rfl w _ _ rfl _ rfl (PL ++ D) hown5 hbel5 (dig R) rfl rfl hlen5 ?_; intro v6 w6 hown6 hbel6)
              refine ⟨⟨e2, Q2, D ++ [dig R], HQ2, rfl, HDs, by rw [← List.append_assoc]; exact hown6, hbel6⟩, ?_⟩
              simp [intOf]; omega
        · have HJ : Hid (jn (xs.take (k + 1)) = (L ++ [32]) ++ dg N) := by
            unfold Hid
            rw [jn_step hlt (by omega), ← hL.out, shL_pos hx, hN]; simp
          have hk0 : 0 < k := by omega
          have e64 : IntKind.u64.wrap xs[k] = (N : Int) := by rw [IntWalk.u64_in _ (by omega)]; omega
          have hNb : N ≤ 9223372036854775808 := by omega
          clear hN h0 hL
          go_wp2_with (first
            | (at_builtin; refine wpList_append_byte rfl _ _ rfl w _ _ rfl _ rfl L hown hbel 32 rfl rfl (by first | omega | (simp; omega)) ?_; intro v1 w1 hown1 hbel1)
            | (go_at_call 69; refine (leadP N hNb _).mono ?_; rintro e w' ⟨E, P, HP, rfl, hE, hQ, rfl⟩))
          generalize hPL : (L ++ [32]) = PL at HJ hown1
          have hPb : PL.length ≤ 42000002 := by rw [← hPL]; first | omega | (simp; omega)
          clear hPL
          have HD0 : Hid (dg N = [] ++ dgs N (E + 1)) := by unfold Hid; exact dg_dgs E N (by rw [← HP.out]; exact hE) (by rw [← HP.out]; exact hQ)
          clear hE hQ
          go_loopw [3, 7] (fun v u wr2 => ∃ (e Q : Nat) (D : List UInt8), Hid (Q = 10 ^ e) ∧ u = .int .u64 (Q : Int) ∧ Hid (dg N = D ++ dgs N (e + 1)) ∧ wr2.ownsRow w.heap.size 5 1 v (PL ++ D).length (bc (PL ++ D)) ∧ Below w.heap.size w wr2) (fun _ u _ => (intOf u).toNat)
          case atStart => exact ⟨E, P, [], HP, rfl, HD0, by rw [List.append_nil]; exact hown1, hbel1⟩
          case round =>
            clear hown1 hbel1 hc HD0 HP
            obtain ⟨e, Q, D, HQ, rfl, HD, hown5, hbel5⟩ := hrel
            have hQ1 : 1 ≤ Q := by rw [HQ.out]; exact Nat.pow_pos (by decide)
            have hDl : D.length + (e + 1) ≤ 19 := by
              have h1 := HDL.out
              have h2 : (dgs N (e + 1)).length = e + 1 := dgs_len N (e + 1)
              rw [HD.out, List.length_append, h2] at h1; exact h1
            have hQb : Q ≤ 1000000000000000000 := by rw [HQ.out]; exact Nat.le_trans (Nat.pow_le_pow_right (by decide) (by omega : e ≤ 18)) (by decide)
            have hlen5 : (PL ++ D).length ≤ 100000000 := by rw [List.length_append]; omega
            have HDs : Hid (dg N = (D ++ [dig (N / Q)]) ++ dgs N e) := by unfold Hid; rw [HD.out, dgs, HQ.out]; simp
            have q0 : Int.tdiv (N : Int) (Q : Int) = ((N / Q : Nat) : Int) := by rw [Int.tdiv_eq_ediv_of_nonneg (by omega)]; rfl
            have hne : (Q : Int) ≠ 0 := by omega
            have hRN : N / Q ≤ N := Nat.div_le_self _ _
            have hwq : IntKind.u64.wrap ((N / Q : Nat) : Int) = ((N / Q : Nat) : Int) := by
              generalize N / Q = R at hRN
              exact IntWalk.u64_in _ (by omega)
            generalize N / Q = R at q0 hRN hwq HDs
            have hdig := (dig_int R).symm
            by_cases h1 : Q = 1
            · have he0 : e = 0 := by
                rcases Nat.eq_zero_or_pos e with h2 | h2
                · exact h2
                · have : 10 ^ 1 ≤ 10 ^ e := Nat.pow_le_pow_right (by decide) h2
                  have := HQ.out; omega
              have HK : Hid (PL ++ D ++ [dig R] = jn (xs.take (k + 1))) := by unfold Hid; rw [HJ.out, HDs.out, he0]; simp [dgs]
              have h1' : ((Q : Int) == 1) = true := by simp; omega
              clear h1 he0 HD HDs HQ HJ
              go_wp2_with (at_builtin; refine wpList_append_byte rfl _ _ rfl w _ _ rfl _ rfl (PL ++ D) hown5 hbel5 (dig R) rfl rfl hlen5 ?_; intro v6 w6 hown6 hbel6)
              refine ⟨⟨k + 1, PL ++ D ++ [dig R], by omega, by go_num, HK, hown6, hbel6⟩, ?_⟩
              simp [intOf]; omega
            · have h1' : ((Q : Int) == 1) = false := by simp; omega
              obtain ⟨e2, rfl⟩ : ∃ e2, e = e2 + 1 := ⟨e - 1, by
                rcases Nat.eq_zero_or_pos e with h2 | h2
                · exact absurd (by rw [HQ.out, h2]) h1
                · omega⟩
              have HQ2 : Hid (Q / 10 = 10 ^ e2) := by unfold Hid; rw [HQ.out, Nat.pow_succ]; omega
              have q2 : Int.tdiv (Q : Int) 10 = ((Q / 10 : Nat) : Int) := by rw [Int.tdiv_eq_ediv_of_nonneg (by omega)]; rfl
              have hlt10 : Q / 10 < Q := by omega
              generalize Q / 10 = Q2 at HQ2 q2 hlt10
              clear h1 HD HQ HJ
              go_wp2_with (at_builtin; refine wpList_append_byte rfl _ _ rfl w _ _ rfl _ rfl (PL ++ D) hown5 hbel5 (dig R) rfl rfl hlen5 ?_; intro v6 w6 hown6 hbel6)
              refine ⟨⟨e2, Q2, D ++ [dig R], HQ2, rfl, HDs, by rw [← List.append_assoc]; exact hown6, hbel6⟩, ?_⟩
              simp [intOf]; omega
    · obtain rfl : k = xs.length := by omega
      rw [List.take_length] at hL
      have hcv := conv_text hown
      have ej : jS xs = ⟨L.toArray⟩ := by rw [hL.out]; rfl
      rw [← ej] at hcv
      clear hL hown
      go_wp2_with fail
      rw [Exit.noGoto_ret]
      go_ret
      exact ⟨by first | rfl | (rw [ej]; rfl), hbel⟩
end Go.Proofs.YtngcahaidlgkfaaDoor.Shape

namespace Go.Proofs.YtngcahaidlgkfaaDoor.Shape
open Go.RowKit Go.Proofs.YtngcahaidlgkfaaDoor.Num
set_option linter.unusedVariables false
set_option linter.unusedSimpArgs false

/-- What the walk of writeLiteral asks of an array. -/
structure LitP (A : Arr) : Prop where
  kind : 1 ≤ A.kind ∧ A.kind ≤ 3
  chars : A.kind = 2 → ∀ x ∈ A.nums, 0 ≤ x ∧ x ≤ 1114111
  nums : A.nums.length ≤ 6000
  items : A.items.length ≤ 6000
  rank : A.shape.length ≤ 8
  one : A.shape.length = 0 → aSize A = 1
  inner : A.kind = 3 → ∀ j (hj : j < A.items.length), WrA A.items[j]
  nil : A.kind = 3 → WrA (.mk 1 [0] [] [])
theorem one_0 (h : 0 < [(0 : Int)].length) : shL ([(0 : Int)][0]'h) = [48] := by
  show shL 0 = [48]
  decide +kernel
theorem lit_n0 : litS (.mk 1 [0] [] []) = [48, 32, 114, 101, 115, 104, 97, 112, 101, 32, 48] := by decide +kernel
theorem box_lit (h : 0 < [Arr.mk 1 [0] [] []].length) : (98 :: 111 :: 120 :: 32 :: litS ([Arr.mk 1 [0] [] []][0]'h)) = [98, 111, 120, 32, 48, 32, 114, 101, 115, 104, 97, 112, 101, 32, 48] := by
  show (98 :: 111 :: 120 :: 32 :: litS (Arr.mk 1 [0] [] [])) = _
  rw [lit_n0]
theorem writeVectorQ (A : Arr) (v : Value) (ok : LitP A) (w : World) (X : Nat) (l : List UInt8) (hl : l.length + (vecS A.kind A.nums (elsT A)).length ≤ 700000) (hT : Tok.TZ w) (hg : 3 < X) (h : Bld w X l) (hA : AA X w v A) :
    Calls Tryd.prog 56 #[.pointer (some ⟨X, 0, none⟩), v] w (Wrote w X (l ++ vecS A.kind A.nums (elsT A))) := by
  have hkk := ok.kind
  have hel := els_len hkk
  have hi := ok.items
  have hn := ok.nums
  have hin := ok.inner
  have hch := ok.chars
  obtain ⟨k, sh, nu, it⟩ := A
  simp only [Arr.kind, Arr.nums, Arr.items] at *
  rcases (by omega : k = 1 ∨ k = 2 ∨ k = 3) with rfl | rfl | rfl
  · have : aSize (.mk 1 sh nu it) = nu.length := size12 (A := .mk 1 sh nu it) (by simp [Arr.kind]) (by simp [Arr.kind])
    exact wv1 sh nu it v _ rfl (by rw [hel, this]; omega) w X l hl hT hg h hA
  · have e : vecS 2 nu (elsT (.mk 2 sh nu it)) = quoS nu := by rw [vecS, if_pos rfl]
    rw [e] at hl ⊢
    exact wv2 sh nu it v (by first | exact hch rfl | exact hch trivial) (by omega) w X l (by omega) hT hg h hA
  · have : aSize (.mk 3 sh nu it) = it.length := size3 (A := .mk 3 sh nu it) rfl
    exact wv3 sh nu it v _ rfl (by rw [hel, this]; omega) (by first | exact hin rfl | exact hin trivial) w X l hl hT hg h hA
theorem headD_at : ∀ {l : List (List UInt8)} (h : 0 < l.length), l.headD [] = l[0]
  | [], h => absurd h (by simp)
  | x :: r, _ => rfl
/-- writeScalar at the first element. -/
theorem writeFirstQ (A : Arr) (v : Value) (ok : LitP A) (h1 : 1 ≤ aSize A) (w : World) (X : Nat) (l : List UInt8) (hl : l.length + ((elsT A).headD []).length ≤ 700000) (hT : Tok.TZ w) (hg : 3 < X) (h : Bld w X l) (hA : AA X w v A) :
    Calls Tryd.prog 57 #[.pointer (some ⟨X, 0, none⟩), v, .int .i64 0] w (Wrote w X (l ++ (elsT A).headD [])) := by
  have hi : 0 < (elsT A).length := by rw [els_len ok.kind]; omega
  have e : (elsT A).headD [] = (elsT A)[0] := headD_at hi
  rw [e] at hl ⊢
  exact writeScalarQ A v 0 ok.kind ok.chars ok.inner hi w X l hl hT hg h hA
end Go.Proofs.YtngcahaidlgkfaaDoor.Shape

namespace Go.Proofs.YtngcahaidlgkfaaDoor.Shape
open Go.RowKit Go.Proofs.YtngcahaidlgkfaaDoor.Num
set_option linter.unusedVariables false
set_option linter.unusedSimpArgs false

set_option maxRecDepth 100000 in
set_option maxHeartbeats 8000000 in
theorem wlA (sh nu : List Int) (it : List Arr) (k : Int) (N : Nat) (hN : aSize (.mk k sh nu it) = N) (ok : LitP (.mk k sh nu it)) (v : Value) (w : World) (X : Nat) (l : List UInt8) (hT : Tok.TZ w) (hg : 3 < X) (h : Bld w X l) (hA : AA X w v (.mk k sh nu it)) (hr0 : Hid (sh.length = 0)) (h1 : 1 ≤ N) (h11 : Hid (N = 1)) (hl : l.length + ((elsT (.mk k sh nu it)).headD []).length ≤ 700000) :
    Calls Tryd.prog 34 #[.pointer (some ⟨X, 0, none⟩), v] w (Wrote w X (l ++ (elsT (.mk k sh nu it)).headD [])) := by
  have hA' := hA
  rw [AA, ArrOn] at hA'
  obtain ⟨sa, sc, na, nc, ia, ic, rfl, hk, hs, hn, h1, h2, b, off, ha, hc⟩ := hA'
  obtain ⟨r, hr⟩ : ∃ r, Hid (sh.length = r) := ⟨_, rfl⟩
  rw [hr.out] at hA ⊢
  have bw := below_new w (.cells #[.int .i64 k, .slice sa r sc, .slice na nu.length nc, .slice ia it.length ic] 26)
  have k0 : Kp X w (w.alloc (.cells #[.int .i64 k, .slice sa r sc, .slice na nu.length nc, .slice ia it.length ic] 26)) := (Kp.refl X w).below (Nat.le_of_lt h.lt) bw
  have hB := h.below bw
  have q0 := Quad.new w (.int .i64 k) (.slice sa r sc) (.slice na nu.length nc) (.slice ia it.length ic)
  have hlt := h.lt
  have hne : w.heap.size ≠ X := Nat.ne_of_gt hlt
  have hX1 : X ≤ (w.alloc (.cells #[.int .i64 k, .slice sa r sc, .slice na nu.length nc, .slice ia it.length ic] 26)).heap.size := by simp; omega
  have cZ : ∀ w', Kp X w w' → Calls Tryd.prog 21 #[(.agg #[.int .i64 k, .slice sa r sc, .slice na nu.length nc, .slice ia it.length ic])] w' fun e w2 => e = .returned (.int .i64 (N : Int)) ∧ Below w'.heap.size w' w2 := fun w' kp => by
    have := sizeQ _ (.mk k sh nu it) w' (AA.at (AA.keep hA kp))
    rw [hN] at this
    exact this
  have hS := fun w' (kp : Kp X w w') => (II.keep hs kp).at
  clear hn h1 h2 ha hc hk
  obtain ⟨W0, hW0⟩ : ∃ W0, w.alloc (.cells #[.int .i64 k, .slice sa r sc, .slice na nu.length nc, .slice ia it.length ic] 26) = W0 := ⟨_, rfl⟩
  have H0 : ∀ w', Below W0.heap.size W0 w' → (w'.cell? ⟨w.heap.size, 0, none⟩ = some (.int .i64 k) ∧ w'.cell? ⟨w.heap.size, 1, none⟩ = some (.slice sa r sc) ∧ w'.cell? ⟨w.heap.size, 2, none⟩ = some (.slice na nu.length nc) ∧ w'.cell? ⟨w.heap.size, 3, none⟩ = some (.slice ia it.length ic)) ∧ Below W0.heap.size W0 w' := fun w' hb => by
    rw [hW0] at q0
    obtain ⟨x0, x1, x2, x3, -⟩ := (Quad.below hb q0).cells
    exact ⟨⟨x0, x1, x2, x3⟩, hb⟩
  have B0 : Below W0.heap.size W0 W0 := Below.refl _ _
  go_enter Tryd.func34, Tryd.ntmps34
  go_upto_region 1 with fail
  try rw [hW0]
  rw [hW0] at k0 hB q0 bw hX1
  go_cut [4, 5] (fun s4 s5 wx => s4 = .int .i64 (r : Int) ∧ s5 = .int .i64 (N : Int) ∧ Below W0.heap.size W0 wx)
  case first =>
    go_region_held3 (fun w' => (w'.cell? ⟨w.heap.size, 0, none⟩ = some (.int .i64 k) ∧ w'.cell? ⟨w.heap.size, 1, none⟩ = some (.slice sa r sc) ∧ w'.cell? ⟨w.heap.size, 2, none⟩ = some (.slice na nu.length nc) ∧ w'.cell? ⟨w.heap.size, 3, none⟩ = some (.slice ia it.length ic)) ∧ Below W0.heap.size W0 w')
      (first | exact H0 _ (by go_grown) | go_keep)
      ((first | (go_at_call 21; (with_reducible refine (cZ _ (Kp.below k0 hX1 (by go_grown))).mono ?_); rintro e w2 ⟨rfl, b2⟩; (have E2 : Below W0.heap.size W0 w2 := Below.then (by go_grown) b2); (have S2 := E2.size))))
    all_goals (go_wp2_with fail; go_meet; exact ⟨rfl, rfl, by first | exact E2 | go_grown⟩)
  case rest =>
    obtain ⟨rfl, rfl, bx⟩ := hcut
    have hrl := hr.out
    have KX := k0.below hX1 bx
    have BX := hB.below bx
    have qx := Quad.below bx q0
    obtain ⟨y0, y1, y2, y3, -⟩ := qx.cells
    clear H0 B0 cZ bw k0 hB q0
    have hr0 := hr0.out
    have h11 := h11.out
    have cS := writeFirstQ (.mk k sh nu it) _ ok (by rw [hN]; exact h1) wc X l hl (tz_kp hT hg KX) hg BX (AA.keep hA KX)
    have e1 : ((r : Int) == 1) = false := by simp; omega
    have e2 : ¬ (0 : Int) < (r : Int) := by omega
    have e3 : ¬ (1 : Int) < (N : Int) := by omega
    have e4 : ((N : Int) == 1) = true := by simp; omega
    clear hr0 h1 h11 hN hS hrl
    go_wp2_with ((go_at_call 57; (with_reducible refine cS.mono ?_); rintro e5 w5 ⟨rfl, h5, k5⟩))
    refine bodyPost_ret (results_none rfl _ _ _) rfl ?_
    exact ⟨rfl, h5, KX.trans k5⟩
set_option maxRecDepth 100000 in
set_option maxHeartbeats 8000000 in
theorem wlB2 (sh nu : List Int) (it : List Arr) (k : Int) (N : Nat) (hN : aSize (.mk k sh nu it) = N) (ok : LitP (.mk k sh nu it)) (v : Value) (w : World) (X : Nat) (l : List UInt8) (hT : Tok.TZ w) (hg : 3 < X) (h : Bld w X l) (hA : AA X w v (.mk k sh nu it)) (hr1 : Hid (sh.length = 1)) (hk2 : Hid (k = 2)) (hNn : ¬ 2 ≤ N) (hl : l.length + (vecS k nu (elsT (.mk k sh nu it))).length ≤ 700000) :
    Calls Tryd.prog 34 #[.pointer (some ⟨X, 0, none⟩), v] w (Wrote w X (l ++ vecS k nu (elsT (.mk k sh nu it)))) := by
  have hA' := hA
  rw [AA, ArrOn] at hA'
  obtain ⟨sa, sc, na, nc, ia, ic, rfl, hk, hs, hn, h1, h2, b, off, ha, hc⟩ := hA'
  obtain ⟨r, hr⟩ : ∃ r, Hid (sh.length = r) := ⟨_, rfl⟩
  rw [hr.out] at hA ⊢
  have bw := below_new w (.cells #[.int .i64 k, .slice sa r sc, .slice na nu.length nc, .slice ia it.length ic] 26)
  have k0 : Kp X w (w.alloc (.cells #[.int .i64 k, .slice sa r sc, .slice na nu.length nc, .slice ia it.length ic] 26)) := (Kp.refl X w).below (Nat.le_of_lt h.lt) bw
  have hB := h.below bw
  have q0 := Quad.new w (.int .i64 k) (.slice sa r sc) (.slice na nu.length nc) (.slice ia it.length ic)
  have hlt := h.lt
  have hne : w.heap.size ≠ X := Nat.ne_of_gt hlt
  have hX1 : X ≤ (w.alloc (.cells #[.int .i64 k, .slice sa r sc, .slice na nu.length nc, .slice ia it.length ic] 26)).heap.size := by simp; omega
  have cZ : ∀ w', Kp X w w' → Calls Tryd.prog 21 #[(.agg #[.int .i64 k, .slice sa r sc, .slice na nu.length nc, .slice ia it.length ic])] w' fun e w2 => e = .returned (.int .i64 (N : Int)) ∧ Below w'.heap.size w' w2 := fun w' kp => by
    have := sizeQ _ (.mk k sh nu it) w' (AA.at (AA.keep hA kp))
    rw [hN] at this
    exact this
  have hS := fun w' (kp : Kp X w w') => (II.keep hs kp).at
  clear hn h1 h2 ha hc hk
  obtain ⟨W0, hW0⟩ : ∃ W0, w.alloc (.cells #[.int .i64 k, .slice sa r sc, .slice na nu.length nc, .slice ia it.length ic] 26) = W0 := ⟨_, rfl⟩
  have H0 : ∀ w', Below W0.heap.size W0 w' → (w'.cell? ⟨w.heap.size, 0, none⟩ = some (.int .i64 k) ∧ w'.cell? ⟨w.heap.size, 1, none⟩ = some (.slice sa r sc) ∧ w'.cell? ⟨w.heap.size, 2, none⟩ = some (.slice na nu.length nc) ∧ w'.cell? ⟨w.heap.size, 3, none⟩ = some (.slice ia it.length ic)) ∧ Below W0.heap.size W0 w' := fun w' hb => by
    rw [hW0] at q0
    obtain ⟨x0, x1, x2, x3, -⟩ := (Quad.below hb q0).cells
    exact ⟨⟨x0, x1, x2, x3⟩, hb⟩
  have B0 : Below W0.heap.size W0 W0 := Below.refl _ _
  go_enter Tryd.func34, Tryd.ntmps34
  go_upto_region 1 with fail
  try rw [hW0]
  rw [hW0] at k0 hB q0 bw hX1
  go_cut [4, 5] (fun s4 s5 wx => s4 = .int .i64 (r : Int) ∧ s5 = .int .i64 (N : Int) ∧ Below W0.heap.size W0 wx)
  case first =>
    go_region_held3 (fun w' => (w'.cell? ⟨w.heap.size, 0, none⟩ = some (.int .i64 k) ∧ w'.cell? ⟨w.heap.size, 1, none⟩ = some (.slice sa r sc) ∧ w'.cell? ⟨w.heap.size, 2, none⟩ = some (.slice na nu.length nc) ∧ w'.cell? ⟨w.heap.size, 3, none⟩ = some (.slice ia it.length ic)) ∧ Below W0.heap.size W0 w')
      (first | exact H0 _ (by go_grown) | go_keep)
      ((first | (go_at_call 21; (with_reducible refine (cZ _ (Kp.below k0 hX1 (by go_grown))).mono ?_); rintro e w2 ⟨rfl, b2⟩; (have E2 : Below W0.heap.size W0 w2 := Below.then (by go_grown) b2); (have S2 := E2.size))))
    all_goals (go_wp2_with fail; go_meet; exact ⟨rfl, rfl, by first | exact E2 | go_grown⟩)
  case rest =>
    obtain ⟨rfl, rfl, bx⟩ := hcut
    have hrl := hr.out
    have KX := k0.below hX1 bx
    have BX := hB.below bx
    have qx := Quad.below bx q0
    obtain ⟨y0, y1, y2, y3, -⟩ := qx.cells
    clear H0 B0 cZ bw k0 hB q0
    have hr1 := hr1.out
    have hk2 := hk2.out
    have cV := writeVectorQ (.mk k sh nu it) _ ok wc X l hl (tz_kp hT hg KX) hg BX (AA.keep hA KX)
    have e1 : ((r : Int) == 1) = true := by simp; omega
    have e2 : (0 : Int) < (r : Int) := by omega
    have e5 : (k == 2) = true := by simp; omega
    have e3 : ¬ (1 : Int) < (N : Int) := by omega
    clear hr1 hNn hN hS hrl
    clear hk2
    go_wp2_with ((go_at_call 56; (with_reducible refine cV.mono ?_); rintro e5 w5 ⟨rfl, h5, k5⟩))
    refine bodyPost_ret (results_none rfl _ _ _) rfl ?_
    exact ⟨rfl, h5, KX.trans k5⟩
set_option maxRecDepth 100000 in
set_option maxHeartbeats 8000000 in
theorem wlBn (sh nu : List Int) (it : List Arr) (k : Int) (N : Nat) (hN : aSize (.mk k sh nu it) = N) (ok : LitP (.mk k sh nu it)) (v : Value) (w : World) (X : Nat) (l : List UInt8) (hT : Tok.TZ w) (hg : 3 < X) (h : Bld w X l) (hA : AA X w v (.mk k sh nu it)) (hr1 : Hid (sh.length = 1)) (hNn : 2 ≤ N) (hl : l.length + (vecS k nu (elsT (.mk k sh nu it))).length ≤ 700000) :
    Calls Tryd.prog 34 #[.pointer (some ⟨X, 0, none⟩), v] w (Wrote w X (l ++ vecS k nu (elsT (.mk k sh nu it)))) := by
  have hA' := hA
  rw [AA, ArrOn] at hA'
  obtain ⟨sa, sc, na, nc, ia, ic, rfl, hk, hs, hn, h1, h2, b, off, ha, hc⟩ := hA'
  obtain ⟨r, hr⟩ : ∃ r, Hid (sh.length = r) := ⟨_, rfl⟩
  rw [hr.out] at hA ⊢
  have bw := below_new w (.cells #[.int .i64 k, .slice sa r sc, .slice na nu.length nc, .slice ia it.length ic] 26)
  have k0 : Kp X w (w.alloc (.cells #[.int .i64 k, .slice sa r sc, .slice na nu.length nc, .slice ia it.length ic] 26)) := (Kp.refl X w).below (Nat.le_of_lt h.lt) bw
  have hB := h.below bw
  have q0 := Quad.new w (.int .i64 k) (.slice sa r sc) (.slice na nu.length nc) (.slice ia it.length ic)
  have hlt := h.lt
  have hne : w.heap.size ≠ X := Nat.ne_of_gt hlt
  have hX1 : X ≤ (w.alloc (.cells #[.int .i64 k, .slice sa r sc, .slice na nu.length nc, .slice ia it.length ic] 26)).heap.size := by simp; omega
  have cZ : ∀ w', Kp X w w' → Calls Tryd.prog 21 #[(.agg #[.int .i64 k, .slice sa r sc, .slice na nu.length nc, .slice ia it.length ic])] w' fun e w2 => e = .returned (.int .i64 (N : Int)) ∧ Below w'.heap.size w' w2 := fun w' kp => by
    have := sizeQ _ (.mk k sh nu it) w' (AA.at (AA.keep hA kp))
    rw [hN] at this
    exact this
  have hS := fun w' (kp : Kp X w w') => (II.keep hs kp).at
  clear hn h1 h2 ha hc hk
  obtain ⟨W0, hW0⟩ : ∃ W0, w.alloc (.cells #[.int .i64 k, .slice sa r sc, .slice na nu.length nc, .slice ia it.length ic] 26) = W0 := ⟨_, rfl⟩
  have H0 : ∀ w', Below W0.heap.size W0 w' → (w'.cell? ⟨w.heap.size, 0, none⟩ = some (.int .i64 k) ∧ w'.cell? ⟨w.heap.size, 1, none⟩ = some (.slice sa r sc) ∧ w'.cell? ⟨w.heap.size, 2, none⟩ = some (.slice na nu.length nc) ∧ w'.cell? ⟨w.heap.size, 3, none⟩ = some (.slice ia it.length ic)) ∧ Below W0.heap.size W0 w' := fun w' hb => by
    rw [hW0] at q0
    obtain ⟨x0, x1, x2, x3, -⟩ := (Quad.below hb q0).cells
    exact ⟨⟨x0, x1, x2, x3⟩, hb⟩
  have B0 : Below W0.heap.size W0 W0 := Below.refl _ _
  go_enter Tryd.func34, Tryd.ntmps34
  go_upto_region 1 with fail
  try rw [hW0]
  rw [hW0] at k0 hB q0 bw hX1
  go_cut [4, 5] (fun s4 s5 wx => s4 = .int .i64 (r : Int) ∧ s5 = .int .i64 (N : Int) ∧ Below W0.heap.size W0 wx)
  case first =>
    go_region_held3 (fun w' => (w'.cell? ⟨w.heap.size, 0, none⟩ = some (.int .i64 k) ∧ w'.cell? ⟨w.heap.size, 1, none⟩ = some (.slice sa r sc) ∧ w'.cell? ⟨w.heap.size, 2, none⟩ = some (.slice na nu.length nc) ∧ w'.cell? ⟨w.heap.size, 3, none⟩ = some (.slice ia it.length ic)) ∧ Below W0.heap.size W0 w')
      (first | exact H0 _ (by go_grown) | go_keep)
      ((first | (go_at_call 21; (with_reducible refine (cZ _ (Kp.below k0 hX1 (by go_grown))).mono ?_); rintro e w2 ⟨rfl, b2⟩; (have E2 : Below W0.heap.size W0 w2 := Below.then (by go_grown) b2); (have S2 := E2.size))))
    all_goals (go_wp2_with fail; go_meet; exact ⟨rfl, rfl, by first | exact E2 | go_grown⟩)
  case rest =>
    obtain ⟨rfl, rfl, bx⟩ := hcut
    have hrl := hr.out
    have KX := k0.below hX1 bx
    have BX := hB.below bx
    have qx := Quad.below bx q0
    obtain ⟨y0, y1, y2, y3, -⟩ := qx.cells
    clear H0 B0 cZ bw k0 hB q0
    have hr1 := hr1.out
    have cV := writeVectorQ (.mk k sh nu it) _ ok wc X l hl (tz_kp hT hg KX) hg BX (AA.keep hA KX)
    have e1 : ((r : Int) == 1) = true := by simp; omega
    have e2 : (0 : Int) < (r : Int) := by omega
    have e3 : (1 : Int) < (N : Int) := by omega
    clear hr1 hNn hN hS hrl
    go_wp2_with ((go_at_call 56; (with_reducible refine cV.mono ?_); rintro e5 w5 ⟨rfl, h5, k5⟩))
    refine bodyPost_ret (results_none rfl _ _ _) rfl ?_
    exact ⟨rfl, h5, KX.trans k5⟩
set_option maxRecDepth 100000 in
set_option maxHeartbeats 8000000 in
theorem wlC1 (sh nu : List Int) (it : List Arr) (k : Int) (N : Nat) (hN : aSize (.mk k sh nu it) = N) (ok : LitP (.mk k sh nu it)) (v : Value) (w : World) (X : Nat) (l : List UInt8) (hT : Tok.TZ w) (hg : 3 < X) (h : Bld w X l) (hA : AA X w v (.mk k sh nu it)) (hr1 : 1 ≤ sh.length) (hv : ¬ sh.length = 1) (hNn : 2 ≤ N) (hl : (l ++ jn sh ++ reS).length + (vecS k nu (elsT (.mk k sh nu it))).length ≤ 700000) :
    Calls Tryd.prog 34 #[.pointer (some ⟨X, 0, none⟩), v] w (Wrote w X (l ++ (jn sh ++ reS ++ vecS k nu (elsT (.mk k sh nu it))))) := by
  have hA' := hA
  rw [AA, ArrOn] at hA'
  obtain ⟨sa, sc, na, nc, ia, ic, rfl, hk, hs, hn, h1, h2, b, off, ha, hc⟩ := hA'
  obtain ⟨r, hr⟩ : ∃ r, Hid (sh.length = r) := ⟨_, rfl⟩
  rw [hr.out] at hA ⊢
  have bw := below_new w (.cells #[.int .i64 k, .slice sa r sc, .slice na nu.length nc, .slice ia it.length ic] 26)
  have k0 : Kp X w (w.alloc (.cells #[.int .i64 k, .slice sa r sc, .slice na nu.length nc, .slice ia it.length ic] 26)) := (Kp.refl X w).below (Nat.le_of_lt h.lt) bw
  have hB := h.below bw
  have q0 := Quad.new w (.int .i64 k) (.slice sa r sc) (.slice na nu.length nc) (.slice ia it.length ic)
  have hlt := h.lt
  have hne : w.heap.size ≠ X := Nat.ne_of_gt hlt
  have hX1 : X ≤ (w.alloc (.cells #[.int .i64 k, .slice sa r sc, .slice na nu.length nc, .slice ia it.length ic] 26)).heap.size := by simp; omega
  have cZ : ∀ w', Kp X w w' → Calls Tryd.prog 21 #[(.agg #[.int .i64 k, .slice sa r sc, .slice na nu.length nc, .slice ia it.length ic])] w' fun e w2 => e = .returned (.int .i64 (N : Int)) ∧ Below w'.heap.size w' w2 := fun w' kp => by
    have := sizeQ _ (.mk k sh nu it) w' (AA.at (AA.keep hA kp))
    rw [hN] at this
    exact this
  have hS := fun w' (kp : Kp X w w') => (II.keep hs kp).at
  clear hn h1 h2 ha hc hk
  obtain ⟨W0, hW0⟩ : ∃ W0, w.alloc (.cells #[.int .i64 k, .slice sa r sc, .slice na nu.length nc, .slice ia it.length ic] 26) = W0 := ⟨_, rfl⟩
  have H0 : ∀ w', Below W0.heap.size W0 w' → (w'.cell? ⟨w.heap.size, 0, none⟩ = some (.int .i64 k) ∧ w'.cell? ⟨w.heap.size, 1, none⟩ = some (.slice sa r sc) ∧ w'.cell? ⟨w.heap.size, 2, none⟩ = some (.slice na nu.length nc) ∧ w'.cell? ⟨w.heap.size, 3, none⟩ = some (.slice ia it.length ic)) ∧ Below W0.heap.size W0 w' := fun w' hb => by
    rw [hW0] at q0
    obtain ⟨x0, x1, x2, x3, -⟩ := (Quad.below hb q0).cells
    exact ⟨⟨x0, x1, x2, x3⟩, hb⟩
  have B0 : Below W0.heap.size W0 W0 := Below.refl _ _
  go_enter Tryd.func34, Tryd.ntmps34
  go_upto_region 1 with fail
  try rw [hW0]
  rw [hW0] at k0 hB q0 bw hX1
  go_cut [4, 5] (fun s4 s5 wx => s4 = .int .i64 (r : Int) ∧ s5 = .int .i64 (N : Int) ∧ Below W0.heap.size W0 wx)
  case first =>
    go_region_held3 (fun w' => (w'.cell? ⟨w.heap.size, 0, none⟩ = some (.int .i64 k) ∧ w'.cell? ⟨w.heap.size, 1, none⟩ = some (.slice sa r sc) ∧ w'.cell? ⟨w.heap.size, 2, none⟩ = some (.slice na nu.length nc) ∧ w'.cell? ⟨w.heap.size, 3, none⟩ = some (.slice ia it.length ic)) ∧ Below W0.heap.size W0 w')
      (first | exact H0 _ (by go_grown) | go_keep)
      ((first | (go_at_call 21; (with_reducible refine (cZ _ (Kp.below k0 hX1 (by go_grown))).mono ?_); rintro e w2 ⟨rfl, b2⟩; (have E2 : Below W0.heap.size W0 w2 := Below.then (by go_grown) b2); (have S2 := E2.size))))
    all_goals (go_wp2_with fail; go_meet; exact ⟨rfl, rfl, by first | exact E2 | go_grown⟩)
  case rest =>
    obtain ⟨rfl, rfl, bx⟩ := hcut
    have hrl := hr.out
    have KX := k0.below hX1 bx
    have BX := hB.below bx
    have qx := Quad.below bx q0
    obtain ⟨y0, y1, y2, y3, -⟩ := qx.cells
    clear H0 B0 cZ bw k0 hB q0
    have cSh : Calls Tryd.prog 55 #[.slice sa r sc] wc fun e w' => e = .returned (.string ⟨(jn sh).toArray⟩) ∧ Below wc.heap.size wc w' := by
      have := shapeShowP sa sc sh wc (hS wc KX) (by have := ok.rank; simp only [Arr.shape] at this; omega)
      rw [hr.out] at this
      exact this
    have hj0 : l.length ≤ 1000000 := by simp only [List.length_append] at hl; omega
    have hj1 : (jn sh).length ≤ 1000000 := by simp only [List.length_append] at hl; omega
    have hj2 : (l ++ jn sh).length ≤ 1000000 := by simp only [List.length_append] at hl ⊢; omega
    have e2 : (0 : Int) < (r : Int) := by omega
    have e1 : ((r : Int) == 1) = false := by simp; omega
    have e3 : (1 : Int) < (N : Int) := by omega
    clear hv
    have hl3 : (l ++ jn sh ++ reS).length + (vecS k nu (elsT (.mk k sh nu it))).length ≤ 700000 := hl
    clear hr1 hNn hN hS hrl
    go_wp2_with (first
      | (go_at_call 55; (with_reducible refine cSh.mono ?_); rintro e1 w1 ⟨rfl, b1⟩; have B1 := Bld.below BX b1; have K1 := Kp.below KX (Nat.le_of_lt BX.lt) b1; have q1 := Quad.below b1 qx)
      | (go_at_call 48; (with_reducible refine (wrL _ X l (jn sh) hj1 hj0 B1).mono ?_); rintro e2 w2 ⟨⟨n2, rfl⟩, B2, k2⟩; have K2 := Kp.trans K1 k2; have q2 := Quad.kp q1 hne k2)
      | (go_at_call 48; (with_reducible refine (wrL _ X (l ++ jn sh) [32, 114, 101, 115, 104, 97, 112, 101, 32] (by decide) hj2 B2).mono ?_); rintro e3 w3 ⟨⟨n3, rfl⟩, B3, k3⟩; have K3 := Kp.trans K2 k3; have q3 := Quad.kp q2 hne k3; obtain ⟨z0, z1, z2, z3, -⟩ := Quad.cells q3; have cV := writeVectorQ (.mk k sh nu it) _ ok w3 X (l ++ jn sh ++ reS) hl3 (tz_kp hT hg K3) hg B3 (AA.keep hA K3))
      | (go_at_call 56; (with_reducible refine cV.mono ?_); rintro e5 w5 ⟨rfl, h5, k5⟩))
    refine bodyPost_ret (results_none rfl _ _ _) rfl ?_
    refine ⟨rfl, ?_, K3.trans k5⟩
    rw [show l ++ (jn sh ++ reS ++ vecS k nu (elsT (.mk k sh nu it))) = (l ++ jn sh ++ reS) ++ vecS k nu (elsT (.mk k sh nu it)) by simp]
    exact h5
end Go.Proofs.YtngcahaidlgkfaaDoor.Shape

namespace Go.Proofs.YtngcahaidlgkfaaDoor.Shape
open Go.RowKit Go.Proofs.YtngcahaidlgkfaaDoor.Num
set_option linter.unusedVariables false
set_option linter.unusedSimpArgs false

set_option maxRecDepth 100000 in
set_option maxHeartbeats 8000000 in
theorem wlC2r (sh nu : List Int) (it : List Arr) (k : Int) (N : Nat) (hN : aSize (.mk k sh nu it) = N) (ok : LitP (.mk k sh nu it)) (v : Value) (w : World) (X : Nat) (l : List UInt8) (hT : Tok.TZ w) (hg : 3 < X) (h : Bld w X l) (hA : AA X w v (.mk k sh nu it)) (hr1 : 1 ≤ sh.length) (hv : ¬ sh.length = 1) (h11 : Hid (N = 1)) (hl : (l ++ jn sh ++ reS).length + ((elsT (.mk k sh nu it)).headD []).length ≤ 700000) :
    Calls Tryd.prog 34 #[.pointer (some ⟨X, 0, none⟩), v] w (Wrote w X (l ++ (jn sh ++ reS ++ (elsT (.mk k sh nu it)).headD []))) := by
  have hA' := hA
  rw [AA, ArrOn] at hA'
  obtain ⟨sa, sc, na, nc, ia, ic, rfl, hk, hs, hn, h1, h2, b, off, ha, hc⟩ := hA'
  obtain ⟨r, hr⟩ : ∃ r, Hid (sh.length = r) := ⟨_, rfl⟩
  rw [hr.out] at hA ⊢
  have bw := below_new w (.cells #[.int .i64 k, .slice sa r sc, .slice na nu.length nc, .slice ia it.length ic] 26)
  have k0 : Kp X w (w.alloc (.cells #[.int .i64 k, .slice sa r sc, .slice na nu.length nc, .slice ia it.length ic] 26)) := (Kp.refl X w).below (Nat.le_of_lt h.lt) bw
  have hB := h.below bw
  have q0 := Quad.new w (.int .i64 k) (.slice sa r sc) (.slice na nu.length nc) (.slice ia it.length ic)
  have hlt := h.lt
  have hne : w.heap.size ≠ X := Nat.ne_of_gt hlt
  have hX1 : X ≤ (w.alloc (.cells #[.int .i64 k, .slice sa r sc, .slice na nu.length nc, .slice ia it.length ic] 26)).heap.size := by simp; omega
  have cZ : ∀ w', Kp X w w' → Calls Tryd.prog 21 #[(.agg #[.int .i64 k, .slice sa r sc, .slice na nu.length nc, .slice ia it.length ic])] w' fun e w2 => e = .returned (.int .i64 (N : Int)) ∧ Below w'.heap.size w' w2 := fun w' kp => by
    have := sizeQ _ (.mk k sh nu it) w' (AA.at (AA.keep hA kp))
    rw [hN] at this
    exact this
  have hS := fun w' (kp : Kp X w w') => (II.keep hs kp).at
  clear hn h1 h2 ha hc hk
  obtain ⟨W0, hW0⟩ : ∃ W0, w.alloc (.cells #[.int .i64 k, .slice sa r sc, .slice na nu.length nc, .slice ia it.length ic] 26) = W0 := ⟨_, rfl⟩
  have H0 : ∀ w', Below W0.heap.size W0 w' → (w'.cell? ⟨w.heap.size, 0, none⟩ = some (.int .i64 k) ∧ w'.cell? ⟨w.heap.size, 1, none⟩ = some (.slice sa r sc) ∧ w'.cell? ⟨w.heap.size, 2, none⟩ = some (.slice na nu.length nc) ∧ w'.cell? ⟨w.heap.size, 3, none⟩ = some (.slice ia it.length ic)) ∧ Below W0.heap.size W0 w' := fun w' hb => by
    rw [hW0] at q0
    obtain ⟨x0, x1, x2, x3, -⟩ := (Quad.below hb q0).cells
    exact ⟨⟨x0, x1, x2, x3⟩, hb⟩
  have B0 : Below W0.heap.size W0 W0 := Below.refl _ _
  go_enter Tryd.func34, Tryd.ntmps34
  go_upto_region 1 with fail
  try rw [hW0]
  rw [hW0] at k0 hB q0 bw hX1
  go_cut [4, 5] (fun s4 s5 wx => s4 = .int .i64 (r : Int) ∧ s5 = .int .i64 (N : Int) ∧ Below W0.heap.size W0 wx)
  case first =>
    go_region_held3 (fun w' => (w'.cell? ⟨w.heap.size, 0, none⟩ = some (.int .i64 k) ∧ w'.cell? ⟨w.heap.size, 1, none⟩ = some (.slice sa r sc) ∧ w'.cell? ⟨w.heap.size, 2, none⟩ = some (.slice na nu.length nc) ∧ w'.cell? ⟨w.heap.size, 3, none⟩ = some (.slice ia it.length ic)) ∧ Below W0.heap.size W0 w')
      (first | exact H0 _ (by go_grown) | go_keep)
      ((first | (go_at_call 21; (with_reducible refine (cZ _ (Kp.below k0 hX1 (by go_grown))).mono ?_); rintro e w2 ⟨rfl, b2⟩; (have E2 : Below W0.heap.size W0 w2 := Below.then (by go_grown) b2); (have S2 := E2.size))))
    all_goals (go_wp2_with fail; go_meet; exact ⟨rfl, rfl, by first | exact E2 | go_grown⟩)
  case rest =>
    obtain ⟨rfl, rfl, bx⟩ := hcut
    have hrl := hr.out
    have KX := k0.below hX1 bx
    have BX := hB.below bx
    have qx := Quad.below bx q0
    obtain ⟨y0, y1, y2, y3, -⟩ := qx.cells
    clear H0 B0 cZ bw k0 hB q0
    have h11 := h11.out
    have cSh : Calls Tryd.prog 55 #[.slice sa r sc] wc fun e w' => e = .returned (.string ⟨(jn sh).toArray⟩) ∧ Below wc.heap.size wc w' := by
      have := shapeShowP sa sc sh wc (hS wc KX) (by have := ok.rank; simp only [Arr.shape] at this; omega)
      rw [hr.out] at this
      exact this
    have hj0 : l.length ≤ 1000000 := by simp only [List.length_append] at hl; omega
    have hj1 : (jn sh).length ≤ 1000000 := by simp only [List.length_append] at hl; omega
    have hj2 : (l ++ jn sh).length ≤ 1000000 := by simp only [List.length_append] at hl ⊢; omega
    have e2 : (0 : Int) < (r : Int) := by omega
    have e1 : ((r : Int) == 1) = false := by simp; omega
    have e3 : ¬ (1 : Int) < (N : Int) := by omega
    have e4 : ((N : Int) == 1) = true := by simp; omega
    have h1N : 1 ≤ aSize (.mk k sh nu it) := by rw [hN]; omega
    have hl3 : (l ++ jn sh ++ reS).length + ((elsT (.mk k sh nu it)).headD []).length ≤ 700000 := hl
    clear hr1 hv h11 hN hS hrl
    go_wp2_with (first
      | (go_at_call 55; (with_reducible refine cSh.mono ?_); rintro e1 w1 ⟨rfl, b1⟩; have B1 := Bld.below BX b1; have K1 := Kp.below KX (Nat.le_of_lt BX.lt) b1; have q1 := Quad.below b1 qx)
      | (go_at_call 48; (with_reducible refine (wrL _ X l (jn sh) hj1 hj0 B1).mono ?_); rintro e2 w2 ⟨⟨n2, rfl⟩, B2, k2⟩; have K2 := Kp.trans K1 k2; have q2 := Quad.kp q1 hne k2)
      | (go_at_call 48; (with_reducible refine (wrL _ X (l ++ jn sh) [32, 114, 101, 115, 104, 97, 112, 101, 32] (by decide) hj2 B2).mono ?_); rintro e3 w3 ⟨⟨n3, rfl⟩, B3, k3⟩; have K3 := Kp.trans K2 k3; have q3 := Quad.kp q2 hne k3; obtain ⟨z0, z1, z2, z3, -⟩ := Quad.cells q3; have cS := writeFirstQ (.mk k sh nu it) _ ok h1N w3 X (l ++ jn sh ++ reS) hl3 (tz_kp hT hg K3) hg B3 (AA.keep hA K3))
      | (go_at_call 57; (with_reducible refine cS.mono ?_); rintro e5 w5 ⟨rfl, h5, k5⟩))
    refine bodyPost_ret (results_none rfl _ _ _) rfl ?_
    refine ⟨rfl, ?_, K3.trans k5⟩
    rw [show l ++ (jn sh ++ reS ++ (elsT (.mk k sh nu it)).headD []) = (l ++ jn sh ++ reS) ++ (elsT (.mk k sh nu it)).headD [] by simp]
    exact h5
set_option maxRecDepth 100000 in
set_option maxHeartbeats 8000000 in
theorem wlC3r1 (sh nu : List Int) (it : List Arr) (k : Int) (N : Nat) (hN : aSize (.mk k sh nu it) = N) (ok : LitP (.mk k sh nu it)) (v : Value) (w : World) (X : Nat) (l : List UInt8) (hT : Tok.TZ w) (hg : 3 < X) (h : Bld w X l) (hA : AA X w v (.mk k sh nu it)) (hr1 : 1 ≤ sh.length) (hv : ¬ sh.length = 1) (h11 : Hid (N = 0)) (hk1 : Hid (k = 1)) (hl : (l ++ jn sh ++ reS).length + ([48]).length ≤ 700000) :
    Calls Tryd.prog 34 #[.pointer (some ⟨X, 0, none⟩), v] w (Wrote w X (l ++ (jn sh ++ reS ++ [48]))) := by
  have hA' := hA
  rw [AA, ArrOn] at hA'
  obtain ⟨sa, sc, na, nc, ia, ic, rfl, hk, hs, hn, h1, h2, b, off, ha, hc⟩ := hA'
  obtain ⟨r, hr⟩ : ∃ r, Hid (sh.length = r) := ⟨_, rfl⟩
  rw [hr.out] at hA ⊢
  have bw := below_new w (.cells #[.int .i64 k, .slice sa r sc, .slice na nu.length nc, .slice ia it.length ic] 26)
  have k0 : Kp X w (w.alloc (.cells #[.int .i64 k, .slice sa r sc, .slice na nu.length nc, .slice ia it.length ic] 26)) := (Kp.refl X w).below (Nat.le_of_lt h.lt) bw
  have hB := h.below bw
  have q0 := Quad.new w (.int .i64 k) (.slice sa r sc) (.slice na nu.length nc) (.slice ia it.length ic)
  have hlt := h.lt
  have hne : w.heap.size ≠ X := Nat.ne_of_gt hlt
  have hX1 : X ≤ (w.alloc (.cells #[.int .i64 k, .slice sa r sc, .slice na nu.length nc, .slice ia it.length ic] 26)).heap.size := by simp; omega
  have cZ : ∀ w', Kp X w w' → Calls Tryd.prog 21 #[(.agg #[.int .i64 k, .slice sa r sc, .slice na nu.length nc, .slice ia it.length ic])] w' fun e w2 => e = .returned (.int .i64 (N : Int)) ∧ Below w'.heap.size w' w2 := fun w' kp => by
    have := sizeQ _ (.mk k sh nu it) w' (AA.at (AA.keep hA kp))
    rw [hN] at this
    exact this
  have hS := fun w' (kp : Kp X w w') => (II.keep hs kp).at
  clear hn h1 h2 ha hc hk
  obtain ⟨W0, hW0⟩ : ∃ W0, w.alloc (.cells #[.int .i64 k, .slice sa r sc, .slice na nu.length nc, .slice ia it.length ic] 26) = W0 := ⟨_, rfl⟩
  have H0 : ∀ w', Below W0.heap.size W0 w' → (w'.cell? ⟨w.heap.size, 0, none⟩ = some (.int .i64 k) ∧ w'.cell? ⟨w.heap.size, 1, none⟩ = some (.slice sa r sc) ∧ w'.cell? ⟨w.heap.size, 2, none⟩ = some (.slice na nu.length nc) ∧ w'.cell? ⟨w.heap.size, 3, none⟩ = some (.slice ia it.length ic)) ∧ Below W0.heap.size W0 w' := fun w' hb => by
    rw [hW0] at q0
    obtain ⟨x0, x1, x2, x3, -⟩ := (Quad.below hb q0).cells
    exact ⟨⟨x0, x1, x2, x3⟩, hb⟩
  have B0 : Below W0.heap.size W0 W0 := Below.refl _ _
  go_enter Tryd.func34, Tryd.ntmps34
  go_upto_region 1 with fail
  try rw [hW0]
  rw [hW0] at k0 hB q0 bw hX1
  go_cut [4, 5] (fun s4 s5 wx => s4 = .int .i64 (r : Int) ∧ s5 = .int .i64 (N : Int) ∧ Below W0.heap.size W0 wx)
  case first =>
    go_region_held3 (fun w' => (w'.cell? ⟨w.heap.size, 0, none⟩ = some (.int .i64 k) ∧ w'.cell? ⟨w.heap.size, 1, none⟩ = some (.slice sa r sc) ∧ w'.cell? ⟨w.heap.size, 2, none⟩ = some (.slice na nu.length nc) ∧ w'.cell? ⟨w.heap.size, 3, none⟩ = some (.slice ia it.length ic)) ∧ Below W0.heap.size W0 w')
      (first | exact H0 _ (by go_grown) | go_keep)
      ((first | (go_at_call 21; (with_reducible refine (cZ _ (Kp.below k0 hX1 (by go_grown))).mono ?_); rintro e w2 ⟨rfl, b2⟩; (have E2 : Below W0.heap.size W0 w2 := Below.then (by go_grown) b2); (have S2 := E2.size))))
    all_goals (go_wp2_with fail; go_meet; exact ⟨rfl, rfl, by first | exact E2 | go_grown⟩)
  case rest =>
    obtain ⟨rfl, rfl, bx⟩ := hcut
    have hrl := hr.out
    have KX := k0.below hX1 bx
    have BX := hB.below bx
    have qx := Quad.below bx q0
    obtain ⟨y0, y1, y2, y3, -⟩ := qx.cells
    clear H0 B0 cZ bw k0 hB q0
    have h11 := h11.out
    have hk1 := hk1.out
    have cSh : Calls Tryd.prog 55 #[.slice sa r sc] wc fun e w' => e = .returned (.string ⟨(jn sh).toArray⟩) ∧ Below wc.heap.size wc w' := by
      have := shapeShowP sa sc sh wc (hS wc KX) (by have := ok.rank; simp only [Arr.shape] at this; omega)
      rw [hr.out] at this
      exact this
    have hj0 : l.length ≤ 1000000 := by simp only [List.length_append] at hl; omega
    have hj1 : (jn sh).length ≤ 1000000 := by simp only [List.length_append] at hl; omega
    have hj2 : (l ++ jn sh).length ≤ 1000000 := by simp only [List.length_append] at hl ⊢; omega
    have e2 : (0 : Int) < (r : Int) := by omega
    have e1 : ((r : Int) == 1) = false := by simp; omega
    have e3 : ¬ (1 : Int) < (N : Int) := by omega
    subst hk1
    have e6 : ((N : Int) == 1) = false := by simp; omega
    have cS0 : ∀ v4 w4, Bld w4 X (l ++ jn sh ++ reS) → Kp X w w4 → ArrAt w4 v4 (.mk 1 [] [0] []) → Calls Tryd.prog 57 #[.pointer (some ⟨X, 0, none⟩), v4, .int .i64 0] w4 (Wrote w4 X ((l ++ jn sh ++ reS) ++ [48])) := fun v4 w4 hB4 hK4 hF => by
      have q := wsc1 [] [0] [] v4 0 (by decide) w4 X (l ++ jn sh ++ reS) (by omega) hB4 hF
      rw [one_0] at q
      exact q
    clear hr1 hv h11 hN hS hrl
    go_wp2_with (first
      | (go_at_call 55; (with_reducible refine cSh.mono ?_); rintro e1 w1 ⟨rfl, b1⟩; have B1 := Bld.below BX b1; have K1 := Kp.below KX (Nat.le_of_lt BX.lt) b1; have q1 := Quad.below b1 qx)
      | (go_at_call 48; (with_reducible refine (wrL _ X l (jn sh) hj1 hj0 B1).mono ?_); rintro e2 w2 ⟨⟨n2, rfl⟩, B2, k2⟩; have K2 := Kp.trans K1 k2; have q2 := Quad.kp q1 hne k2)
      | (go_at_call 48; (with_reducible refine (wrL _ X (l ++ jn sh) [32, 114, 101, 115, 104, 97, 112, 101, 32] (by decide) hj2 B2).mono ?_); rintro e3 w3 ⟨⟨n3, rfl⟩, B3, k3⟩; have K3 := Kp.trans K2 k3; have q3 := Quad.kp q2 hne k3; obtain ⟨z0, z1, z2, z3, -⟩ := Quad.cells q3; have cF := fillN _ (.mk 1 sh nu it) w3 (AA.at (AA.keep hA K3)))
      | (go_at_call 58; (with_reducible refine cF.mono ?_); intro e4 w4 hN4; obtain ⟨k', sa', ls', sc', na', ln', nc', ia', li', ic', rfl, hO, b4⟩ := hN4.form; have B4 := Bld.below B3 b4; have K4 := Kp.below K3 (Nat.le_of_lt B3.lt) b4; have cS := cS0 _ w4 B4 K4 hO.at)
      | (go_at_call 57; (with_reducible refine cS.mono ?_); rintro e5 w5 ⟨rfl, h5, k5⟩))
    refine bodyPost_ret (results_none rfl _ _ _) rfl ?_
    refine ⟨rfl, ?_, K4.trans k5⟩
    rw [show l ++ (jn sh ++ reS ++ [48]) = (l ++ jn sh ++ reS) ++ [48] by simp]
    exact h5
set_option maxRecDepth 100000 in
set_option maxHeartbeats 8000000 in
theorem wlC3r2 (sh nu : List Int) (it : List Arr) (k : Int) (N : Nat) (hN : aSize (.mk k sh nu it) = N) (ok : LitP (.mk k sh nu it)) (v : Value) (w : World) (X : Nat) (l : List UInt8) (hT : Tok.TZ w) (hg : 3 < X) (h : Bld w X l) (hA : AA X w v (.mk k sh nu it)) (hr1 : 1 ≤ sh.length) (hv : ¬ sh.length = 1) (h11 : Hid (N = 0)) (hk1 : Hid (k = 2)) (hl : (l ++ jn sh ++ reS).length + ([39, 32, 39]).length ≤ 700000) :
    Calls Tryd.prog 34 #[.pointer (some ⟨X, 0, none⟩), v] w (Wrote w X (l ++ (jn sh ++ reS ++ [39, 32, 39]))) := by
  have hA' := hA
  rw [AA, ArrOn] at hA'
  obtain ⟨sa, sc, na, nc, ia, ic, rfl, hk, hs, hn, h1, h2, b, off, ha, hc⟩ := hA'
  obtain ⟨r, hr⟩ : ∃ r, Hid (sh.length = r) := ⟨_, rfl⟩
  rw [hr.out] at hA ⊢
  have bw := below_new w (.cells #[.int .i64 k, .slice sa r sc, .slice na nu.length nc, .slice ia it.length ic] 26)
  have k0 : Kp X w (w.alloc (.cells #[.int .i64 k, .slice sa r sc, .slice na nu.length nc, .slice ia it.length ic] 26)) := (Kp.refl X w).below (Nat.le_of_lt h.lt) bw
  have hB := h.below bw
  have q0 := Quad.new w (.int .i64 k) (.slice sa r sc) (.slice na nu.length nc) (.slice ia it.length ic)
  have hlt := h.lt
  have hne : w.heap.size ≠ X := Nat.ne_of_gt hlt
  have hX1 : X ≤ (w.alloc (.cells #[.int .i64 k, .slice sa r sc, .slice na nu.length nc, .slice ia it.length ic] 26)).heap.size := by simp; omega
  have cZ : ∀ w', Kp X w w' → Calls Tryd.prog 21 #[(.agg #[.int .i64 k, .slice sa r sc, .slice na nu.length nc, .slice ia it.length ic])] w' fun e w2 => e = .returned (.int .i64 (N : Int)) ∧ Below w'.heap.size w' w2 := fun w' kp => by
    have := sizeQ _ (.mk k sh nu it) w' (AA.at (AA.keep hA kp))
    rw [hN] at this
    exact this
  have hS := fun w' (kp : Kp X w w') => (II.keep hs kp).at
  clear hn h1 h2 ha hc hk
  obtain ⟨W0, hW0⟩ : ∃ W0, w.alloc (.cells #[.int .i64 k, .slice sa r sc, .slice na nu.length nc, .slice ia it.length ic] 26) = W0 := ⟨_, rfl⟩
  have H0 : ∀ w', Below W0.heap.size W0 w' → (w'.cell? ⟨w.heap.size, 0, none⟩ = some (.int .i64 k) ∧ w'.cell? ⟨w.heap.size, 1, none⟩ = some (.slice sa r sc) ∧ w'.cell? ⟨w.heap.size, 2, none⟩ = some (.slice na nu.length nc) ∧ w'.cell? ⟨w.heap.size, 3, none⟩ = some (.slice ia it.length ic)) ∧ Below W0.heap.size W0 w' := fun w' hb => by
    rw [hW0] at q0
    obtain ⟨x0, x1, x2, x3, -⟩ := (Quad.below hb q0).cells
    exact ⟨⟨x0, x1, x2, x3⟩, hb⟩
  have B0 : Below W0.heap.size W0 W0 := Below.refl _ _
  go_enter Tryd.func34, Tryd.ntmps34
  go_upto_region 1 with fail
  try rw [hW0]
  rw [hW0] at k0 hB q0 bw hX1
  go_cut [4, 5] (fun s4 s5 wx => s4 = .int .i64 (r : Int) ∧ s5 = .int .i64 (N : Int) ∧ Below W0.heap.size W0 wx)
  case first =>
    go_region_held3 (fun w' => (w'.cell? ⟨w.heap.size, 0, none⟩ = some (.int .i64 k) ∧ w'.cell? ⟨w.heap.size, 1, none⟩ = some (.slice sa r sc) ∧ w'.cell? ⟨w.heap.size, 2, none⟩ = some (.slice na nu.length nc) ∧ w'.cell? ⟨w.heap.size, 3, none⟩ = some (.slice ia it.length ic)) ∧ Below W0.heap.size W0 w')
      (first | exact H0 _ (by go_grown) | go_keep)
      ((first | (go_at_call 21; (with_reducible refine (cZ _ (Kp.below k0 hX1 (by go_grown))).mono ?_); rintro e w2 ⟨rfl, b2⟩; (have E2 : Below W0.heap.size W0 w2 := Below.then (by go_grown) b2); (have S2 := E2.size))))
    all_goals (go_wp2_with fail; go_meet; exact ⟨rfl, rfl, by first | exact E2 | go_grown⟩)
  case rest =>
    obtain ⟨rfl, rfl, bx⟩ := hcut
    have hrl := hr.out
    have KX := k0.below hX1 bx
    have BX := hB.below bx
    have qx := Quad.below bx q0
    obtain ⟨y0, y1, y2, y3, -⟩ := qx.cells
    clear H0 B0 cZ bw k0 hB q0
    have h11 := h11.out
    have hk1 := hk1.out
    have cSh : Calls Tryd.prog 55 #[.slice sa r sc] wc fun e w' => e = .returned (.string ⟨(jn sh).toArray⟩) ∧ Below wc.heap.size wc w' := by
      have := shapeShowP sa sc sh wc (hS wc KX) (by have := ok.rank; simp only [Arr.shape] at this; omega)
      rw [hr.out] at this
      exact this
    have hj0 : l.length ≤ 1000000 := by simp only [List.length_append] at hl; omega
    have hj1 : (jn sh).length ≤ 1000000 := by simp only [List.length_append] at hl; omega
    have hj2 : (l ++ jn sh).length ≤ 1000000 := by simp only [List.length_append] at hl ⊢; omega
    have e2 : (0 : Int) < (r : Int) := by omega
    have e1 : ((r : Int) == 1) = false := by simp; omega
    have e3 : ¬ (1 : Int) < (N : Int) := by omega
    subst hk1
    have e6 : ((N : Int) == 1) = false := by simp; omega
    have cS0 : ∀ v4 w4, Bld w4 X (l ++ jn sh ++ reS) → Kp X w w4 → ArrAt w4 v4 (.mk 2 [] [32] []) → Calls Tryd.prog 57 #[.pointer (some ⟨X, 0, none⟩), v4, .int .i64 0] w4 (Wrote w4 X ((l ++ jn sh ++ reS) ++ [39, 32, 39])) := fun v4 w4 hB4 hK4 hF => by
      exact wsc2 [] [32] [] v4 0 (by decide) (by simp) w4 X (l ++ jn sh ++ reS) (by omega) (tz_kp hT hg hK4) hg hB4 hF
    clear hr1 hv h11 hN hS hrl
    go_wp2_with (first
      | (go_at_call 55; (with_reducible refine cSh.mono ?_); rintro e1 w1 ⟨rfl, b1⟩; have B1 := Bld.below BX b1; have K1 := Kp.below KX (Nat.le_of_lt BX.lt) b1; have q1 := Quad.below b1 qx)
      | (go_at_call 48; (with_reducible refine (wrL _ X l (jn sh) hj1 hj0 B1).mono ?_); rintro e2 w2 ⟨⟨n2, rfl⟩, B2, k2⟩; have K2 := Kp.trans K1 k2; have q2 := Quad.kp q1 hne k2)
      | (go_at_call 48; (with_reducible refine (wrL _ X (l ++ jn sh) [32, 114, 101, 115, 104, 97, 112, 101, 32] (by decide) hj2 B2).mono ?_); rintro e3 w3 ⟨⟨n3, rfl⟩, B3, k3⟩; have K3 := Kp.trans K2 k3; have q3 := Quad.kp q2 hne k3; obtain ⟨z0, z1, z2, z3, -⟩ := Quad.cells q3; have cF := fillN _ (.mk 2 sh nu it) w3 (AA.at (AA.keep hA K3)))
      | (go_at_call 58; (with_reducible refine cF.mono ?_); intro e4 w4 hN4; obtain ⟨k', sa', ls', sc', na', ln', nc', ia', li', ic', rfl, hO, b4⟩ := hN4.form; have B4 := Bld.below B3 b4; have K4 := Kp.below K3 (Nat.le_of_lt B3.lt) b4; have cS := cS0 _ w4 B4 K4 hO.at)
      | (go_at_call 57; (with_reducible refine cS.mono ?_); rintro e5 w5 ⟨rfl, h5, k5⟩))
    refine bodyPost_ret (results_none rfl _ _ _) rfl ?_
    refine ⟨rfl, ?_, K4.trans k5⟩
    rw [show l ++ (jn sh ++ reS ++ [39, 32, 39]) = (l ++ jn sh ++ reS) ++ [39, 32, 39] by simp]
    exact h5
set_option maxRecDepth 100000 in
set_option maxHeartbeats 8000000 in
theorem wlC3r3 (sh nu : List Int) (it : List Arr) (k : Int) (N : Nat) (hN : aSize (.mk k sh nu it) = N) (ok : LitP (.mk k sh nu it)) (v : Value) (w : World) (X : Nat) (l : List UInt8) (hT : Tok.TZ w) (hg : 3 < X) (h : Bld w X l) (hA : AA X w v (.mk k sh nu it)) (hr1 : 1 ≤ sh.length) (hv : ¬ sh.length = 1) (h11 : Hid (N = 0)) (hk1 : Hid (k = 3)) (hl : (l ++ jn sh ++ reS).length + ([98, 111, 120, 32, 48, 32, 114, 101, 115, 104, 97, 112, 101, 32, 48]).length ≤ 700000) :
    Calls Tryd.prog 34 #[.pointer (some ⟨X, 0, none⟩), v] w (Wrote w X (l ++ (jn sh ++ reS ++ [98, 111, 120, 32, 48, 32, 114, 101, 115, 104, 97, 112, 101, 32, 48]))) := by
  have hA' := hA
  rw [AA, ArrOn] at hA'
  obtain ⟨sa, sc, na, nc, ia, ic, rfl, hk, hs, hn, h1, h2, b, off, ha, hc⟩ := hA'
  obtain ⟨r, hr⟩ : ∃ r, Hid (sh.length = r) := ⟨_, rfl⟩
  rw [hr.out] at hA ⊢
  have bw := below_new w (.cells #[.int .i64 k, .slice sa r sc, .slice na nu.length nc, .slice ia it.length ic] 26)
  have k0 : Kp X w (w.alloc (.cells #[.int .i64 k, .slice sa r sc, .slice na nu.length nc, .slice ia it.length ic] 26)) := (Kp.refl X w).below (Nat.le_of_lt h.lt) bw
  have hB := h.below bw
  have q0 := Quad.new w (.int .i64 k) (.slice sa r sc) (.slice na nu.length nc) (.slice ia it.length ic)
  have hlt := h.lt
  have hne : w.heap.size ≠ X := Nat.ne_of_gt hlt
  have hX1 : X ≤ (w.alloc (.cells #[.int .i64 k, .slice sa r sc, .slice na nu.length nc, .slice ia it.length ic] 26)).heap.size := by simp; omega
  have cZ : ∀ w', Kp X w w' → Calls Tryd.prog 21 #[(.agg #[.int .i64 k, .slice sa r sc, .slice na nu.length nc, .slice ia it.length ic])] w' fun e w2 => e = .returned (.int .i64 (N : Int)) ∧ Below w'.heap.size w' w2 := fun w' kp => by
    have := sizeQ _ (.mk k sh nu it) w' (AA.at (AA.keep hA kp))
    rw [hN] at this
    exact this
  have hS := fun w' (kp : Kp X w w') => (II.keep hs kp).at
  clear hn h1 h2 ha hc hk
  obtain ⟨W0, hW0⟩ : ∃ W0, w.alloc (.cells #[.int .i64 k, .slice sa r sc, .slice na nu.length nc, .slice ia it.length ic] 26) = W0 := ⟨_, rfl⟩
  have H0 : ∀ w', Below W0.heap.size W0 w' → (w'.cell? ⟨w.heap.size, 0, none⟩ = some (.int .i64 k) ∧ w'.cell? ⟨w.heap.size, 1, none⟩ = some (.slice sa r sc) ∧ w'.cell? ⟨w.heap.size, 2, none⟩ = some (.slice na nu.length nc) ∧ w'.cell? ⟨w.heap.size, 3, none⟩ = some (.slice ia it.length ic)) ∧ Below W0.heap.size W0 w' := fun w' hb => by
    rw [hW0] at q0
    obtain ⟨x0, x1, x2, x3, -⟩ := (Quad.below hb q0).cells
    exact ⟨⟨x0, x1, x2, x3⟩, hb⟩
  have B0 : Below W0.heap.size W0 W0 := Below.refl _ _
  go_enter Tryd.func34, Tryd.ntmps34
  go_upto_region 1 with fail
  try rw [hW0]
  rw [hW0] at k0 hB q0 bw hX1
  go_cut [4, 5] (fun s4 s5 wx => s4 = .int .i64 (r : Int) ∧ s5 = .int .i64 (N : Int) ∧ Below W0.heap.size W0 wx)
  case first =>
    go_region_held3 (fun w' => (w'.cell? ⟨w.heap.size, 0, none⟩ = some (.int .i64 k) ∧ w'.cell? ⟨w.heap.size, 1, none⟩ = some (.slice sa r sc) ∧ w'.cell? ⟨w.heap.size, 2, none⟩ = some (.slice na nu.length nc) ∧ w'.cell? ⟨w.heap.size, 3, none⟩ = some (.slice ia it.length ic)) ∧ Below W0.heap.size W0 w')
      (first | exact H0 _ (by go_grown) | go_keep)
      ((first | (go_at_call 21; (with_reducible refine (cZ _ (Kp.below k0 hX1 (by go_grown))).mono ?_); rintro e w2 ⟨rfl, b2⟩; (have E2 : Below W0.heap.size W0 w2 := Below.then (by go_grown) b2); (have S2 := E2.size))))
    all_goals (go_wp2_with fail; go_meet; exact ⟨rfl, rfl, by first | exact E2 | go_grown⟩)
  case rest =>
    obtain ⟨rfl, rfl, bx⟩ := hcut
    have hrl := hr.out
    have KX := k0.below hX1 bx
    have BX := hB.below bx
    have qx := Quad.below bx q0
    obtain ⟨y0, y1, y2, y3, -⟩ := qx.cells
    clear H0 B0 cZ bw k0 hB q0
    have h11 := h11.out
    have hk1 := hk1.out
    have cSh : Calls Tryd.prog 55 #[.slice sa r sc] wc fun e w' => e = .returned (.string ⟨(jn sh).toArray⟩) ∧ Below wc.heap.size wc w' := by
      have := shapeShowP sa sc sh wc (hS wc KX) (by have := ok.rank; simp only [Arr.shape] at this; omega)
      rw [hr.out] at this
      exact this
    have hj0 : l.length ≤ 1000000 := by simp only [List.length_append] at hl; omega
    have hj1 : (jn sh).length ≤ 1000000 := by simp only [List.length_append] at hl; omega
    have hj2 : (l ++ jn sh).length ≤ 1000000 := by simp only [List.length_append] at hl ⊢; omega
    have e2 : (0 : Int) < (r : Int) := by omega
    have e1 : ((r : Int) == 1) = false := by simp; omega
    have e3 : ¬ (1 : Int) < (N : Int) := by omega
    subst hk1
    have e6 : ((N : Int) == 1) = false := by simp; omega
    have cS0 : ∀ v4 w4, Bld w4 X (l ++ jn sh ++ reS) → Kp X w w4 → AA X w4 v4 (.mk 3 [] [] [.mk 1 [0] [] []]) → Calls Tryd.prog 57 #[.pointer (some ⟨X, 0, none⟩), v4, .int .i64 0] w4 (Wrote w4 X ((l ++ jn sh ++ reS) ++ [98, 111, 120, 32, 48, 32, 114, 101, 115, 104, 97, 112, 101, 32, 48])) := fun v4 w4 hB4 hK4 hF => by
      have q := wsc3 [] [] [.mk 1 [0] [] []] v4 0 (by decide) (ok.nil rfl) w4 X (l ++ jn sh ++ reS) (by rw [show [Arr.mk 1 [0] [] []][0] = Arr.mk 1 [0] [] [] from rfl, lit_n0]; simp only [List.length_cons, List.length_nil] at hl ⊢; omega) (tz_kp hT hg hK4) hg hB4 hF
      rw [box_lit] at q
      exact q
    clear hr1 hv h11 hN hS hrl
    go_wp2_with (first
      | (go_at_call 55; (with_reducible refine cSh.mono ?_); rintro e1 w1 ⟨rfl, b1⟩; have B1 := Bld.below BX b1; have K1 := Kp.below KX (Nat.le_of_lt BX.lt) b1; have q1 := Quad.below b1 qx)
      | (go_at_call 48; (with_reducible refine (wrL _ X l (jn sh) hj1 hj0 B1).mono ?_); rintro e2 w2 ⟨⟨n2, rfl⟩, B2, k2⟩; have K2 := Kp.trans K1 k2; have q2 := Quad.kp q1 hne k2)
      | (go_at_call 48; (with_reducible refine (wrL _ X (l ++ jn sh) [32, 114, 101, 115, 104, 97, 112, 101, 32] (by decide) hj2 B2).mono ?_); rintro e3 w3 ⟨⟨n3, rfl⟩, B3, k3⟩; have K3 := Kp.trans K2 k3; have q3 := Quad.kp q2 hne k3; obtain ⟨z0, z1, z2, z3, -⟩ := Quad.cells q3; have cF := fillO _ (.mk 3 sh nu it) w3 (AA.at (AA.keep hA K3)) rfl)
      | (go_at_call 58; (with_reducible refine cF.mono ?_); rintro e4 w4 ⟨k', sa', ls', sc', na', ln', nc', ia', li', ic', rfl, hO, b4⟩; have B4 := Bld.below B3 b4; have K4 := Kp.below K3 (Nat.le_of_lt B3.lt) b4; have cS := cS0 _ w4 B4 K4 (own_aw B3.lt hO))
      | (go_at_call 57; (with_reducible refine cS.mono ?_); rintro e5 w5 ⟨rfl, h5, k5⟩))
    refine bodyPost_ret (results_none rfl _ _ _) rfl ?_
    refine ⟨rfl, ?_, K4.trans k5⟩
    rw [show l ++ (jn sh ++ reS ++ [98, 111, 120, 32, 48, 32, 114, 101, 115, 104, 97, 112, 101, 32, 48]) = (l ++ jn sh ++ reS) ++ [98, 111, 120, 32, 48, 32, 114, 101, 115, 104, 97, 112, 101, 32, 48] by simp]
    exact h5
set_option maxRecDepth 100000 in
set_option maxHeartbeats 8000000 in
theorem wlC2v (sh nu : List Int) (it : List Arr) (k : Int) (N : Nat) (hN : aSize (.mk k sh nu it) = N) (ok : LitP (.mk k sh nu it)) (v : Value) (w : World) (X : Nat) (l : List UInt8) (hT : Tok.TZ w) (hg : 3 < X) (h : Bld w X l) (hA : AA X w v (.mk k sh nu it)) (hr1 : 1 ≤ sh.length) (hv : Hid (sh.length = 1)) (hk2 : ¬ k = 2) (h11 : Hid (N = 1)) (hl : (l ++ jn sh ++ reS).length + ((elsT (.mk k sh nu it)).headD []).length ≤ 700000) :
    Calls Tryd.prog 34 #[.pointer (some ⟨X, 0, none⟩), v] w (Wrote w X (l ++ (jn sh ++ reS ++ (elsT (.mk k sh nu it)).headD []))) := by
  have hA' := hA
  rw [AA, ArrOn] at hA'
  obtain ⟨sa, sc, na, nc, ia, ic, rfl, hk, hs, hn, h1, h2, b, off, ha, hc⟩ := hA'
  obtain ⟨r, hr⟩ : ∃ r, Hid (sh.length = r) := ⟨_, rfl⟩
  rw [hr.out] at hA ⊢
  have bw := below_new w (.cells #[.int .i64 k, .slice sa r sc, .slice na nu.length nc, .slice ia it.length ic] 26)
  have k0 : Kp X w (w.alloc (.cells #[.int .i64 k, .slice sa r sc, .slice na nu.length nc, .slice ia it.length ic] 26)) := (Kp.refl X w).below (Nat.le_of_lt h.lt) bw
  have hB := h.below bw
  have q0 := Quad.new w (.int .i64 k) (.slice sa r sc) (.slice na nu.length nc) (.slice ia it.length ic)
  have hlt := h.lt
  have hne : w.heap.size ≠ X := Nat.ne_of_gt hlt
  have hX1 : X ≤ (w.alloc (.cells #[.int .i64 k, .slice sa r sc, .slice na nu.length nc, .slice ia it.length ic] 26)).heap.size := by simp; omega
  have cZ : ∀ w', Kp X w w' → Calls Tryd.prog 21 #[(.agg #[.int .i64 k, .slice sa r sc, .slice na nu.length nc, .slice ia it.length ic])] w' fun e w2 => e = .returned (.int .i64 (N : Int)) ∧ Below w'.heap.size w' w2 := fun w' kp => by
    have := sizeQ _ (.mk k sh nu it) w' (AA.at (AA.keep hA kp))
    rw [hN] at this
    exact this
  have hS := fun w' (kp : Kp X w w') => (II.keep hs kp).at
  clear hn h1 h2 ha hc hk
  obtain ⟨W0, hW0⟩ : ∃ W0, w.alloc (.cells #[.int .i64 k, .slice sa r sc, .slice na nu.length nc, .slice ia it.length ic] 26) = W0 := ⟨_, rfl⟩
  have H0 : ∀ w', Below W0.heap.size W0 w' → (w'.cell? ⟨w.heap.size, 0, none⟩ = some (.int .i64 k) ∧ w'.cell? ⟨w.heap.size, 1, none⟩ = some (.slice sa r sc) ∧ w'.cell? ⟨w.heap.size, 2, none⟩ = some (.slice na nu.length nc) ∧ w'.cell? ⟨w.heap.size, 3, none⟩ = some (.slice ia it.length ic)) ∧ Below W0.heap.size W0 w' := fun w' hb => by
    rw [hW0] at q0
    obtain ⟨x0, x1, x2, x3, -⟩ := (Quad.below hb q0).cells
    exact ⟨⟨x0, x1, x2, x3⟩, hb⟩
  have B0 : Below W0.heap.size W0 W0 := Below.refl _ _
  go_enter Tryd.func34, Tryd.ntmps34
  go_upto_region 1 with fail
  try rw [hW0]
  rw [hW0] at k0 hB q0 bw hX1
  go_cut [4, 5] (fun s4 s5 wx => s4 = .int .i64 (r : Int) ∧ s5 = .int .i64 (N : Int) ∧ Below W0.heap.size W0 wx)
  case first =>
    go_region_held3 (fun w' => (w'.cell? ⟨w.heap.size, 0, none⟩ = some (.int .i64 k) ∧ w'.cell? ⟨w.heap.size, 1, none⟩ = some (.slice sa r sc) ∧ w'.cell? ⟨w.heap.size, 2, none⟩ = some (.slice na nu.length nc) ∧ w'.cell? ⟨w.heap.size, 3, none⟩ = some (.slice ia it.length ic)) ∧ Below W0.heap.size W0 w')
      (first | exact H0 _ (by go_grown) | go_keep)
      ((first | (go_at_call 21; (with_reducible refine (cZ _ (Kp.below k0 hX1 (by go_grown))).mono ?_); rintro e w2 ⟨rfl, b2⟩; (have E2 : Below W0.heap.size W0 w2 := Below.then (by go_grown) b2); (have S2 := E2.size))))
    all_goals (go_wp2_with fail; go_meet; exact ⟨rfl, rfl, by first | exact E2 | go_grown⟩)
  case rest =>
    obtain ⟨rfl, rfl, bx⟩ := hcut
    have hrl := hr.out
    have KX := k0.below hX1 bx
    have BX := hB.below bx
    have qx := Quad.below bx q0
    obtain ⟨y0, y1, y2, y3, -⟩ := qx.cells
    clear H0 B0 cZ bw k0 hB q0
    have hv := hv.out
    have h11 := h11.out
    have cSh : Calls Tryd.prog 55 #[.slice sa r sc] wc fun e w' => e = .returned (.string ⟨(jn sh).toArray⟩) ∧ Below wc.heap.size wc w' := by
      have := shapeShowP sa sc sh wc (hS wc KX) (by have := ok.rank; simp only [Arr.shape] at this; omega)
      rw [hr.out] at this
      exact this
    have hj0 : l.length ≤ 1000000 := by simp only [List.length_append] at hl; omega
    have hj1 : (jn sh).length ≤ 1000000 := by simp only [List.length_append] at hl; omega
    have hj2 : (l ++ jn sh).length ≤ 1000000 := by simp only [List.length_append] at hl ⊢; omega
    have e2 : (0 : Int) < (r : Int) := by omega
    have e1 : ((r : Int) == 1) = true := by simp; omega
    have e5 : (k == 2) = false := by simpa using hk2
    have e3 : ¬ (1 : Int) < (N : Int) := by omega
    have e4 : ((N : Int) == 1) = true := by simp; omega
    have h1N : 1 ≤ aSize (.mk k sh nu it) := by rw [hN]; omega
    have hl3 : (l ++ jn sh ++ reS).length + ((elsT (.mk k sh nu it)).headD []).length ≤ 700000 := hl
    clear hr1 hv h11 hN hS hrl
    clear hk2
    go_wp2_with (first
      | (go_at_call 55; (with_reducible refine cSh.mono ?_); rintro e1 w1 ⟨rfl, b1⟩; have B1 := Bld.below BX b1; have K1 := Kp.below KX (Nat.le_of_lt BX.lt) b1; have q1 := Quad.below b1 qx)
      | (go_at_call 48; (with_reducible refine (wrL _ X l (jn sh) hj1 hj0 B1).mono ?_); rintro e2 w2 ⟨⟨n2, rfl⟩, B2, k2⟩; have K2 := Kp.trans K1 k2; have q2 := Quad.kp q1 hne k2)
      | (go_at_call 48; (with_reducible refine (wrL _ X (l ++ jn sh) [32, 114, 101, 115, 104, 97, 112, 101, 32] (by decide) hj2 B2).mono ?_); rintro e3 w3 ⟨⟨n3, rfl⟩, B3, k3⟩; have K3 := Kp.trans K2 k3; have q3 := Quad.kp q2 hne k3; obtain ⟨z0, z1, z2, z3, -⟩ := Quad.cells q3; have cS := writeFirstQ (.mk k sh nu it) _ ok h1N w3 X (l ++ jn sh ++ reS) hl3 (tz_kp hT hg K3) hg B3 (AA.keep hA K3))
      | (go_at_call 57; (with_reducible refine cS.mono ?_); rintro e5 w5 ⟨rfl, h5, k5⟩))
    refine bodyPost_ret (results_none rfl _ _ _) rfl ?_
    refine ⟨rfl, ?_, K3.trans k5⟩
    rw [show l ++ (jn sh ++ reS ++ (elsT (.mk k sh nu it)).headD []) = (l ++ jn sh ++ reS) ++ (elsT (.mk k sh nu it)).headD [] by simp]
    exact h5
set_option maxRecDepth 100000 in
set_option maxHeartbeats 8000000 in
theorem wlC3v1 (sh nu : List Int) (it : List Arr) (k : Int) (N : Nat) (hN : aSize (.mk k sh nu it) = N) (ok : LitP (.mk k sh nu it)) (v : Value) (w : World) (X : Nat) (l : List UInt8) (hT : Tok.TZ w) (hg : 3 < X) (h : Bld w X l) (hA : AA X w v (.mk k sh nu it)) (hr1 : 1 ≤ sh.length) (hv : Hid (sh.length = 1)) (hk2 : ¬ k = 2) (h11 : Hid (N = 0)) (hk1 : Hid (k = 1)) (hl : (l ++ jn sh ++ reS).length + ([48]).length ≤ 700000) :
    Calls Tryd.prog 34 #[.pointer (some ⟨X, 0, none⟩), v] w (Wrote w X (l ++ (jn sh ++ reS ++ [48]))) := by
  have hA' := hA
  rw [AA, ArrOn] at hA'
  obtain ⟨sa, sc, na, nc, ia, ic, rfl, hk, hs, hn, h1, h2, b, off, ha, hc⟩ := hA'
  obtain ⟨r, hr⟩ : ∃ r, Hid (sh.length = r) := ⟨_, rfl⟩
  rw [hr.out] at hA ⊢
  have bw := below_new w (.cells #[.int .i64 k, .slice sa r sc, .slice na nu.length nc, .slice ia it.length ic] 26)
  have k0 : Kp X w (w.alloc (.cells #[.int .i64 k, .slice sa r sc, .slice na nu.length nc, .slice ia it.length ic] 26)) := (Kp.refl X w).below (Nat.le_of_lt h.lt) bw
  have hB := h.below bw
  have q0 := Quad.new w (.int .i64 k) (.slice sa r sc) (.slice na nu.length nc) (.slice ia it.length ic)
  have hlt := h.lt
  have hne : w.heap.size ≠ X := Nat.ne_of_gt hlt
  have hX1 : X ≤ (w.alloc (.cells #[.int .i64 k, .slice sa r sc, .slice na nu.length nc, .slice ia it.length ic] 26)).heap.size := by simp; omega
  have cZ : ∀ w', Kp X w w' → Calls Tryd.prog 21 #[(.agg #[.int .i64 k, .slice sa r sc, .slice na nu.length nc, .slice ia it.length ic])] w' fun e w2 => e = .returned (.int .i64 (N : Int)) ∧ Below w'.heap.size w' w2 := fun w' kp => by
    have := sizeQ _ (.mk k sh nu it) w' (AA.at (AA.keep hA kp))
    rw [hN] at this
    exact this
  have hS := fun w' (kp : Kp X w w') => (II.keep hs kp).at
  clear hn h1 h2 ha hc hk
  obtain ⟨W0, hW0⟩ : ∃ W0, w.alloc (.cells #[.int .i64 k, .slice sa r sc, .slice na nu.length nc, .slice ia it.length ic] 26) = W0 := ⟨_, rfl⟩
  have H0 : ∀ w', Below W0.heap.size W0 w' → (w'.cell? ⟨w.heap.size, 0, none⟩ = some (.int .i64 k) ∧ w'.cell? ⟨w.heap.size, 1, none⟩ = some (.slice sa r sc) ∧ w'.cell? ⟨w.heap.size, 2, none⟩ = some (.slice na nu.length nc) ∧ w'.cell? ⟨w.heap.size, 3, none⟩ = some (.slice ia it.length ic)) ∧ Below W0.heap.size W0 w' := fun w' hb => by
    rw [hW0] at q0
    obtain ⟨x0, x1, x2, x3, -⟩ := (Quad.below hb q0).cells
    exact ⟨⟨x0, x1, x2, x3⟩, hb⟩
  have B0 : Below W0.heap.size W0 W0 := Below.refl _ _
  go_enter Tryd.func34, Tryd.ntmps34
  go_upto_region 1 with fail
  try rw [hW0]
  rw [hW0] at k0 hB q0 bw hX1
  go_cut [4, 5] (fun s4 s5 wx => s4 = .int .i64 (r : Int) ∧ s5 = .int .i64 (N : Int) ∧ Below W0.heap.size W0 wx)
  case first =>
    go_region_held3 (fun w' => (w'.cell? ⟨w.heap.size, 0, none⟩ = some (.int .i64 k) ∧ w'.cell? ⟨w.heap.size, 1, none⟩ = some (.slice sa r sc) ∧ w'.cell? ⟨w.heap.size, 2, none⟩ = some (.slice na nu.length nc) ∧ w'.cell? ⟨w.heap.size, 3, none⟩ = some (.slice ia it.length ic)) ∧ Below W0.heap.size W0 w')
      (first | exact H0 _ (by go_grown) | go_keep)
      ((first | (go_at_call 21; (with_reducible refine (cZ _ (Kp.below k0 hX1 (by go_grown))).mono ?_); rintro e w2 ⟨rfl, b2⟩; (have E2 : Below W0.heap.size W0 w2 := Below.then (by go_grown) b2); (have S2 := E2.size))))
    all_goals (go_wp2_with fail; go_meet; exact ⟨rfl, rfl, by first | exact E2 | go_grown⟩)
  case rest =>
    obtain ⟨rfl, rfl, bx⟩ := hcut
    have hrl := hr.out
    have KX := k0.below hX1 bx
    have BX := hB.below bx
    have qx := Quad.below bx q0
    obtain ⟨y0, y1, y2, y3, -⟩ := qx.cells
    clear H0 B0 cZ bw k0 hB q0
    have hv := hv.out
    have h11 := h11.out
    have hk1 := hk1.out
    have cSh : Calls Tryd.prog 55 #[.slice sa r sc] wc fun e w' => e = .returned (.string ⟨(jn sh).toArray⟩) ∧ Below wc.heap.size wc w' := by
      have := shapeShowP sa sc sh wc (hS wc KX) (by have := ok.rank; simp only [Arr.shape] at this; omega)
      rw [hr.out] at this
      exact this
    have hj0 : l.length ≤ 1000000 := by simp only [List.length_append] at hl; omega
    have hj1 : (jn sh).length ≤ 1000000 := by simp only [List.length_append] at hl; omega
    have hj2 : (l ++ jn sh).length ≤ 1000000 := by simp only [List.length_append] at hl ⊢; omega
    have e2 : (0 : Int) < (r : Int) := by omega
    have e1 : ((r : Int) == 1) = true := by simp; omega
    have e5 : (k == 2) = false := by simpa using hk2
    have e3 : ¬ (1 : Int) < (N : Int) := by omega
    subst hk1
    have e6 : ((N : Int) == 1) = false := by simp; omega
    have cS0 : ∀ v4 w4, Bld w4 X (l ++ jn sh ++ reS) → Kp X w w4 → ArrAt w4 v4 (.mk 1 [] [0] []) → Calls Tryd.prog 57 #[.pointer (some ⟨X, 0, none⟩), v4, .int .i64 0] w4 (Wrote w4 X ((l ++ jn sh ++ reS) ++ [48])) := fun v4 w4 hB4 hK4 hF => by
      have q := wsc1 [] [0] [] v4 0 (by decide) w4 X (l ++ jn sh ++ reS) (by omega) hB4 hF
      rw [one_0] at q
      exact q
    clear hr1 hv h11 hN hS hrl
    go_wp2_with (first
      | (go_at_call 55; (with_reducible refine cSh.mono ?_); rintro e1 w1 ⟨rfl, b1⟩; have B1 := Bld.below BX b1; have K1 := Kp.below KX (Nat.le_of_lt BX.lt) b1; have q1 := Quad.below b1 qx)
      | (go_at_call 48; (with_reducible refine (wrL _ X l (jn sh) hj1 hj0 B1).mono ?_); rintro e2 w2 ⟨⟨n2, rfl⟩, B2, k2⟩; have K2 := Kp.trans K1 k2; have q2 := Quad.kp q1 hne k2)
      | (go_at_call 48; (with_reducible refine (wrL _ X (l ++ jn sh) [32, 114, 101, 115, 104, 97, 112, 101, 32] (by decide) hj2 B2).mono ?_); rintro e3 w3 ⟨⟨n3, rfl⟩, B3, k3⟩; have K3 := Kp.trans K2 k3; have q3 := Quad.kp q2 hne k3; obtain ⟨z0, z1, z2, z3, -⟩ := Quad.cells q3; have cF := fillN _ (.mk 1 sh nu it) w3 (AA.at (AA.keep hA K3)))
      | (go_at_call 58; (with_reducible refine cF.mono ?_); intro e4 w4 hN4; obtain ⟨k', sa', ls', sc', na', ln', nc', ia', li', ic', rfl, hO, b4⟩ := hN4.form; have B4 := Bld.below B3 b4; have K4 := Kp.below K3 (Nat.le_of_lt B3.lt) b4; have cS := cS0 _ w4 B4 K4 hO.at)
      | (go_at_call 57; (with_reducible refine cS.mono ?_); rintro e5 w5 ⟨rfl, h5, k5⟩))
    refine bodyPost_ret (results_none rfl _ _ _) rfl ?_
    refine ⟨rfl, ?_, K4.trans k5⟩
    rw [show l ++ (jn sh ++ reS ++ [48]) = (l ++ jn sh ++ reS) ++ [48] by simp]
    exact h5
set_option maxRecDepth 100000 in
set_option maxHeartbeats 8000000 in
theorem wlC3v3 (sh nu : List Int) (it : List Arr) (k : Int) (N : Nat) (hN : aSize (.mk k sh nu it) = N) (ok : LitP (.mk k sh nu it)) (v : Value) (w : World) (X : Nat) (l : List UInt8) (hT : Tok.TZ w) (hg : 3 < X) (h : Bld w X l) (hA : AA X w v (.mk k sh nu it)) (hr1 : 1 ≤ sh.length) (hv : Hid (sh.length = 1)) (hk2 : ¬ k = 2) (h11 : Hid (N = 0)) (hk1 : Hid (k = 3)) (hl : (l ++ jn sh ++ reS).length + ([98, 111, 120, 32, 48, 32, 114, 101, 115, 104, 97, 112, 101, 32, 48]).length ≤ 700000) :
    Calls Tryd.prog 34 #[.pointer (some ⟨X, 0, none⟩), v] w (Wrote w X (l ++ (jn sh ++ reS ++ [98, 111, 120, 32, 48, 32, 114, 101, 115, 104, 97, 112, 101, 32, 48]))) := by
  have hA' := hA
  rw [AA, ArrOn] at hA'
  obtain ⟨sa, sc, na, nc, ia, ic, rfl, hk, hs, hn, h1, h2, b, off, ha, hc⟩ := hA'
  obtain ⟨r, hr⟩ : ∃ r, Hid (sh.length = r) := ⟨_, rfl⟩
  rw [hr.out] at hA ⊢
  have bw := below_new w (.cells #[.int .i64 k, .slice sa r sc, .slice na nu.length nc, .slice ia it.length ic] 26)
  have k0 : Kp X w (w.alloc (.cells #[.int .i64 k, .slice sa r sc, .slice na nu.length nc, .slice ia it.length ic] 26)) := (Kp.refl X w).below (Nat.le_of_lt h.lt) bw
  have hB := h.below bw
  have q0 := Quad.new w (.int .i64 k) (.slice sa r sc) (.slice na nu.length nc) (.slice ia it.length ic)
  have hlt := h.lt
  have hne : w.heap.size ≠ X := Nat.ne_of_gt hlt
  have hX1 : X ≤ (w.alloc (.cells #[.int .i64 k, .slice sa r sc, .slice na nu.length nc, .slice ia it.length ic] 26)).heap.size := by simp; omega
  have cZ : ∀ w', Kp X w w' → Calls Tryd.prog 21 #[(.agg #[.int .i64 k, .slice sa r sc, .slice na nu.length nc, .slice ia it.length ic])] w' fun e w2 => e = .returned (.int .i64 (N : Int)) ∧ Below w'.heap.size w' w2 := fun w' kp => by
    have := sizeQ _ (.mk k sh nu it) w' (AA.at (AA.keep hA kp))
    rw [hN] at this
    exact this
  have hS := fun w' (kp : Kp X w w') => (II.keep hs kp).at
  clear hn h1 h2 ha hc hk
  obtain ⟨W0, hW0⟩ : ∃ W0, w.alloc (.cells #[.int .i64 k, .slice sa r sc, .slice na nu.length nc, .slice ia it.length ic] 26) = W0 := ⟨_, rfl⟩
  have H0 : ∀ w', Below W0.heap.size W0 w' → (w'.cell? ⟨w.heap.size, 0, none⟩ = some (.int .i64 k) ∧ w'.cell? ⟨w.heap.size, 1, none⟩ = some (.slice sa r sc) ∧ w'.cell? ⟨w.heap.size, 2, none⟩ = some (.slice na nu.length nc) ∧ w'.cell? ⟨w.heap.size, 3, none⟩ = some (.slice ia it.length ic)) ∧ Below W0.heap.size W0 w' := fun w' hb => by
    rw [hW0] at q0
    obtain ⟨x0, x1, x2, x3, -⟩ := (Quad.below hb q0).cells
    exact ⟨⟨x0, x1, x2, x3⟩, hb⟩
  have B0 : Below W0.heap.size W0 W0 := Below.refl _ _
  go_enter Tryd.func34, Tryd.ntmps34
  go_upto_region 1 with fail
  try rw [hW0]
  rw [hW0] at k0 hB q0 bw hX1
  go_cut [4, 5] (fun s4 s5 wx => s4 = .int .i64 (r : Int) ∧ s5 = .int .i64 (N : Int) ∧ Below W0.heap.size W0 wx)
  case first =>
    go_region_held3 (fun w' => (w'.cell? ⟨w.heap.size, 0, none⟩ = some (.int .i64 k) ∧ w'.cell? ⟨w.heap.size, 1, none⟩ = some (.slice sa r sc) ∧ w'.cell? ⟨w.heap.size, 2, none⟩ = some (.slice na nu.length nc) ∧ w'.cell? ⟨w.heap.size, 3, none⟩ = some (.slice ia it.length ic)) ∧ Below W0.heap.size W0 w')
      (first | exact H0 _ (by go_grown) | go_keep)
      ((first | (go_at_call 21; (with_reducible refine (cZ _ (Kp.below k0 hX1 (by go_grown))).mono ?_); rintro e w2 ⟨rfl, b2⟩; (have E2 : Below W0.heap.size W0 w2 := Below.then (by go_grown) b2); (have S2 := E2.size))))
    all_goals (go_wp2_with fail; go_meet; exact ⟨rfl, rfl, by first | exact E2 | go_grown⟩)
  case rest =>
    obtain ⟨rfl, rfl, bx⟩ := hcut
    have hrl := hr.out
    have KX := k0.below hX1 bx
    have BX := hB.below bx
    have qx := Quad.below bx q0
    obtain ⟨y0, y1, y2, y3, -⟩ := qx.cells
    clear H0 B0 cZ bw k0 hB q0
    have hv := hv.out
    have h11 := h11.out
    have hk1 := hk1.out
    have cSh : Calls Tryd.prog 55 #[.slice sa r sc] wc fun e w' => e = .returned (.string ⟨(jn sh).toArray⟩) ∧ Below wc.heap.size wc w' := by
      have := shapeShowP sa sc sh wc (hS wc KX) (by have := ok.rank; simp only [Arr.shape] at this; omega)
      rw [hr.out] at this
      exact this
    have hj0 : l.length ≤ 1000000 := by simp only [List.length_append] at hl; omega
    have hj1 : (jn sh).length ≤ 1000000 := by simp only [List.length_append] at hl; omega
    have hj2 : (l ++ jn sh).length ≤ 1000000 := by simp only [List.length_append] at hl ⊢; omega
    have e2 : (0 : Int) < (r : Int) := by omega
    have e1 : ((r : Int) == 1) = true := by simp; omega
    have e5 : (k == 2) = false := by simpa using hk2
    have e3 : ¬ (1 : Int) < (N : Int) := by omega
    subst hk1
    have e6 : ((N : Int) == 1) = false := by simp; omega
    have cS0 : ∀ v4 w4, Bld w4 X (l ++ jn sh ++ reS) → Kp X w w4 → AA X w4 v4 (.mk 3 [] [] [.mk 1 [0] [] []]) → Calls Tryd.prog 57 #[.pointer (some ⟨X, 0, none⟩), v4, .int .i64 0] w4 (Wrote w4 X ((l ++ jn sh ++ reS) ++ [98, 111, 120, 32, 48, 32, 114, 101, 115, 104, 97, 112, 101, 32, 48])) := fun v4 w4 hB4 hK4 hF => by
      have q := wsc3 [] [] [.mk 1 [0] [] []] v4 0 (by decide) (ok.nil rfl) w4 X (l ++ jn sh ++ reS) (by rw [show [Arr.mk 1 [0] [] []][0] = Arr.mk 1 [0] [] [] from rfl, lit_n0]; simp only [List.length_cons, List.length_nil] at hl ⊢; omega) (tz_kp hT hg hK4) hg hB4 hF
      rw [box_lit] at q
      exact q
    clear hr1 hv h11 hN hS hrl
    go_wp2_with (first
      | (go_at_call 55; (with_reducible refine cSh.mono ?_); rintro e1 w1 ⟨rfl, b1⟩; have B1 := Bld.below BX b1; have K1 := Kp.below KX (Nat.le_of_lt BX.lt) b1; have q1 := Quad.below b1 qx)
      | (go_at_call 48; (with_reducible refine (wrL _ X l (jn sh) hj1 hj0 B1).mono ?_); rintro e2 w2 ⟨⟨n2, rfl⟩, B2, k2⟩; have K2 := Kp.trans K1 k2; have q2 := Quad.kp q1 hne k2)
      | (go_at_call 48; (with_reducible refine (wrL _ X (l ++ jn sh) [32, 114, 101, 115, 104, 97, 112, 101, 32] (by decide) hj2 B2).mono ?_); rintro e3 w3 ⟨⟨n3, rfl⟩, B3, k3⟩; have K3 := Kp.trans K2 k3; have q3 := Quad.kp q2 hne k3; obtain ⟨z0, z1, z2, z3, -⟩ := Quad.cells q3; have cF := fillO _ (.mk 3 sh nu it) w3 (AA.at (AA.keep hA K3)) rfl)
      | (go_at_call 58; (with_reducible refine cF.mono ?_); rintro e4 w4 ⟨k', sa', ls', sc', na', ln', nc', ia', li', ic', rfl, hO, b4⟩; have B4 := Bld.below B3 b4; have K4 := Kp.below K3 (Nat.le_of_lt B3.lt) b4; have cS := cS0 _ w4 B4 K4 (own_aw B3.lt hO))
      | (go_at_call 57; (with_reducible refine cS.mono ?_); rintro e5 w5 ⟨rfl, h5, k5⟩))
    refine bodyPost_ret (results_none rfl _ _ _) rfl ?_
    refine ⟨rfl, ?_, K4.trans k5⟩
    rw [show l ++ (jn sh ++ reS ++ [98, 111, 120, 32, 48, 32, 114, 101, 115, 104, 97, 112, 101, 32, 48]) = (l ++ jn sh ++ reS) ++ [98, 111, 120, 32, 48, 32, 114, 101, 115, 104, 97, 112, 101, 32, 48] by simp]
    exact h5
/-- writeLiteral writes the literal of an array. -/
theorem writeLiteralQ (A : Arr) (ok : LitP A) : WrA A := by
  intro w X l v hl hT hg h hA
  obtain ⟨N, hN⟩ : ∃ N, aSize A = N := ⟨_, rfl⟩
  have hel := els_len ok.kind
  have hkk := ok.kind
  have hone := ok.one
  rw [hN] at hel hone
  rw [litS_els] at hl ⊢
  obtain ⟨k, sh, nu, it⟩ := A
  simp only [Arr.kind, Arr.shape, Arr.nums] at hl hkk hone ⊢
  unfold litT at hl ⊢
  rw [hel] at hl ⊢
  by_cases hr0 : sh.length = 0
  · rw [if_pos hr0] at hl ⊢
    have := hone hr0
    exact wlA sh nu it k N hN ok v w X l hT hg h hA (Lib.hid hr0) (by omega) (Lib.hid this) hl
  rw [if_neg hr0] at hl ⊢
  by_cases hv : sh.length = 1 ∧ (k = 2 ∨ 2 ≤ N)
  · rw [if_pos hv] at hl ⊢
    by_cases hn : 2 ≤ N
    · exact wlBn sh nu it k N hN ok v w X l hT hg h hA (Lib.hid hv.1) hn hl
    · exact wlB2 sh nu it k N hN ok v w X l hT hg h hA (Lib.hid hv.1) (Lib.hid (by omega)) hn hl
  rw [if_neg hv] at hl ⊢
  by_cases hn0 : N = 0
  · rw [if_pos hn0] at hl ⊢
    by_cases hr1 : sh.length = 1
    · rcases (by omega : k = 1 ∨ k = 3) with hk | hk
      · have e : fillT k = [48] := by rw [hk]; rfl
        rw [e] at hl ⊢
        exact wlC3v1 sh nu it k N hN ok v w X l hT hg h hA (by omega) (Lib.hid hr1) (by omega) (Lib.hid hn0) (Lib.hid hk) (by simp only [List.length_append] at hl ⊢; omega)
      · have e : fillT k = [98, 111, 120, 32, 48, 32, 114, 101, 115, 104, 97, 112, 101, 32, 48] := by rw [hk]; rfl
        rw [e] at hl ⊢
        exact wlC3v3 sh nu it k N hN ok v w X l hT hg h hA (by omega) (Lib.hid hr1) (by omega) (Lib.hid hn0) (Lib.hid hk) (by simp only [List.length_append] at hl ⊢; omega)
    · rcases (by omega : k = 1 ∨ k = 2 ∨ k = 3) with hk | hk | hk
      · have e : fillT k = [48] := by rw [hk]; rfl
        rw [e] at hl ⊢
        exact wlC3r1 sh nu it k N hN ok v w X l hT hg h hA (by omega) hr1 (Lib.hid hn0) (Lib.hid hk) (by simp only [List.length_append] at hl ⊢; omega)
      · have e : fillT k = [39, 32, 39] := by rw [hk]; rfl
        rw [e] at hl ⊢
        exact wlC3r2 sh nu it k N hN ok v w X l hT hg h hA (by omega) hr1 (Lib.hid hn0) (Lib.hid hk) (by simp only [List.length_append] at hl ⊢; omega)
      · have e : fillT k = [98, 111, 120, 32, 48, 32, 114, 101, 115, 104, 97, 112, 101, 32, 48] := by rw [hk]; rfl
        rw [e] at hl ⊢
        exact wlC3r3 sh nu it k N hN ok v w X l hT hg h hA (by omega) hr1 (Lib.hid hn0) (Lib.hid hk) (by simp only [List.length_append] at hl ⊢; omega)
  rw [if_neg hn0] at hl ⊢
  by_cases hn1 : N = 1
  · rw [if_pos hn1] at hl ⊢
    by_cases hr1 : sh.length = 1
    · exact wlC2v sh nu it k N hN ok v w X l hT hg h hA (by omega) (Lib.hid hr1) (by omega) (Lib.hid hn1) (by simp only [List.length_append] at hl ⊢; omega)
    · exact wlC2r sh nu it k N hN ok v w X l hT hg h hA (by omega) hr1 (Lib.hid hn1) (by simp only [List.length_append] at hl ⊢; omega)
  · rw [if_neg hn1] at hl ⊢
    exact wlC1 sh nu it k N hN ok v w X l hT hg h hA (by omega) (by omega) (by omega) (by simp only [List.length_append] at hl ⊢; omega)
end Go.Proofs.YtngcahaidlgkfaaDoor.Shape

namespace Go.Proofs.YtngcahaidlgkfaaDoor.Shape
open Go.RowKit Go.Proofs.YtngcahaidlgkfaaDoor.Num
set_option linter.unusedVariables false
set_option linter.unusedSimpArgs false

theorem wr_nil : WrA (.mk 1 [0] [] []) := writeLiteralQ _ {
  kind := by simp [Arr.kind]
  chars := fun h => by simp [Arr.kind] at h
  nums := by simp [Arr.nums]
  items := by simp [Arr.items]
  rank := by simp [Arr.shape]
  one := fun h => by simp [Arr.shape] at h
  inner := fun h => by simp [Arr.kind] at h
  nil := fun h => by simp [Arr.kind] at h }
/-- writeLiteral at every valid array of few elements. -/
theorem wrA_of (n : Nat) : ∀ (A : Arr), rk A ≤ n → rightE A = 0 → wt A ≤ 400 → WrA A := by
  induction n with
  | zero => intro A h; exact absurd h (by obtain ⟨k, sh, nu, it⟩ := A; rw [rk]; omega)
  | succ n ih =>
    intro A hrk hx hw
    obtain ⟨k, sh, nu, it⟩ := A
    have V := val_of hx
    have hwp := wt_few hw
    have hsw := sumW_nn it
    have hk := V.kind
    obtain ⟨N, hN⟩ : ∃ N, aSize (.mk k sh nu it) = N := ⟨_, rfl⟩
    have hsz := V.size
    rw [hN] at hwp hsz
    have hN4 : N ≤ 400 := by split at hwp <;> omega
    have hnu : nu.length ≤ 400 := by
      by_cases h3 : k = 3
      · rw [V.boxed h3]; simp
      · have : N = nu.length := by rw [← hN]; exact size12 (A := .mk k sh nu it) h3 hk
        omega
    have hit : it.length ≤ 400 := by
      by_cases h3 : k = 3
      · have : N = it.length := by rw [← hN]; exact size3 (A := .mk k sh nu it) h3
        omega
      · rw [V.plain h3]; simp
    refine writeLiteralQ _ ⟨hk, fun h2 => ?_, by show nu.length ≤ 6000; omega, by show it.length ≤ 6000; omega, (dims_parts V.dims).1, fun h0 => ?_, fun h3 j hj => ?_, fun _ => wr_nil⟩
    · have h2' : k = 2 := h2
      subst h2'
      exact chars_bd V.elems
    · have h0' : sh = [] := List.eq_nil_of_length_eq_zero h0
      rw [hN]
      rw [h0', pr] at hsz
      omega
    · have h3' : k = 3 := h3
      have hj' : j < it.length := hj
      have hj2 := sumW_ge hj'
      rw [if_pos h3'] at hwp
      exact ih it[j] (by have := rk_item (k := k) (sh := sh) (nu := nu) hj'; omega) (V.items j hj') (by omega)
theorem aa_old {w w' : World} {v : Value} {A : Arr} {X : Nat} (h : ArrAt w v A) (hb : Below w.heap.size w w') (hX : w.heap.size ≤ X) : AA X w' v A :=
  (ArrAt.on h).keep fun g hg hl => ⟨Or.inl (by omega), fun o => hb.cell hg⟩
set_option maxRecDepth 100000 in
set_option maxHeartbeats 4000000 in
theorem literalP (v : Value) (A : Arr) (w : World) (h : ArrAt w v A) (hx : rightE A = 0) (hw : wt A ≤ 400) (hT : Tok.TZ w) (hg : 3 < w.heap.size) :
    Calls Tryd.prog 19 #[v] w fun e w' => e = .returned (.string ⟨(litS A).toArray⟩) ∧ Below w.heap.size w w' := by
  have hA := h
  have hlen := lit_len (rk A) A (Nat.le_refl _) hx hw
  have hW := wrA_of (rk A) A (Nat.le_refl _) hx hw
  obtain ⟨L, hL⟩ : ∃ L, Hid (litS A = L) := ⟨_, rfl⟩
  obtain ⟨c0, c1, c2, c3, rfl⟩ : ∃ c0 c1 c2 c3 : Value, v = .agg #[c0, c1, c2, c3] := by
    obtain ⟨k, sh, nu, it⟩ := A
    rw [ArrAt] at h
    obtain ⟨sa, sc, na, nc, ia, ic, rfl, -⟩ := h
    exact ⟨_, _, _, _, rfl⟩
  have b2 : Below w.heap.size w ((w.alloc (.cells #[c0, c1, c2, c3] 26)).alloc (.cells #[.pointer none, .slice none 0 0] 52)) := Below.then (below_new _ _) (below_new _ _)
  have D0 := Bld.new (w.alloc (.cells #[c0, c1, c2, c3] 26))
  have hz : (w.alloc (.cells #[c0, c1, c2, c3] 26)).heap.size = w.heap.size + 1 := by simp
  rw [hz] at D0
  have hT2 : Tok.TZ ((w.alloc (.cells #[c0, c1, c2, c3] 26)).alloc (.cells #[.pointer none, .slice none 0 0] 52)) := Tok.TZ.below hT b2
  have cW := hW _ (w.heap.size + 1) [] _ (by simp only [List.length_nil]; have := wt_nn A; omega) hT2 (by omega) D0 (aa_old hA b2 (by omega))
  rw [hL.out, List.nil_append] at cW
  rw [hL.out]
  have q0 := (Quad.new w c0 c1 c2 c3).below (below_new _ (.cells #[.pointer none, .slice none 0 0] 52))
  obtain ⟨p0, p1, p2, p3, -⟩ := q0.cells
  clear hz h hlen hW hx hw
  go_enter Tryd.func19, Tryd.ntmps19
  go_wp2_with (first
    | (go_at_call 34; (with_reducible refine cW.mono ?_); rintro e1 w1 ⟨rfl, h1, k1⟩; have B1 := b2.trans (k1.1.mono (Nat.le_succ _)))
    | (go_at_call 35; (with_reducible refine (bldString _ (w.heap.size + 1) L h1).mono ?_); rintro e2 w2 ⟨rfl, b3⟩))
  go_ret
  exact ⟨rfl, B1.trans (b3.mono (Nat.le_succ _))⟩
/-- What Literal gives. -/
def litA (A : Arr) : List UInt8 := if rightE A = 0 then litS A else []
set_option maxRecDepth 100000 in
set_option maxHeartbeats 4000000 in
theorem LiteralP (v : Value) (A : Arr) (w : World) (h : ArrAt w v A) (hw : wt A ≤ 400) (hT : Tok.TZ w) (hg : 3 < w.heap.size) :
    Calls Tryd.prog 9 #[v] w fun e w' => e = .returned (.string ⟨(litA A).toArray⟩) ∧ Below w.heap.size w w' := by
  have hA := h
  obtain ⟨x, hx⟩ : ∃ x, rightE A = x := ⟨_, rfl⟩
  have R := fun W (g : ArrAt W v A) => rightQ v A W g
  have LP := fun W (g : ArrAt W v A) (hx : rightE A = 0) hT hg => literalP v A W g hx hw hT hg
  obtain ⟨L, hL⟩ : ∃ L, Hid (litA A = L) := ⟨_, rfl⟩
  have hL2 := hL.out
  rw [litA, hx] at hL2
  rw [hx] at R LP
  rw [hL.out]
  obtain ⟨c0, c1, c2, c3, rfl⟩ : ∃ c0 c1 c2 c3 : Value, v = .agg #[c0, c1, c2, c3] := by
    obtain ⟨k, sh, nu, it⟩ := A
    rw [ArrAt] at h
    obtain ⟨sa, sc, na, nc, ia, ic, rfl, -⟩ := h
    exact ⟨_, _, _, _, rfl⟩
  have bw := below_new w (.cells #[c0, c1, c2, c3] 26)
  have q0 := Quad.new w c0 c1 c2 c3
  have hA1 := hA.below bw
  have hT1 := Tok.TZ.below hT bw
  have cR := R _ hA1
  by_cases h0 : x = 0
  · subst h0
    rw [if_pos rfl] at hL2
    rw [hL2] at LP
    obtain ⟨p0, p1, p2, p3, -⟩ := q0.cells
    clear hx hL hL2 R hA h
    have hs1 := bw.size
    go_enter Tryd.func9, Tryd.ntmps9
    go_wp2_with (first
      | (go_at_call 18; (with_reducible refine cR.mono ?_); rintro e1 w1 ⟨rfl, b1⟩; obtain ⟨y0, y1, y2, y3, -⟩ := (q0.below b1).cells; have cL := LP w1 (hA1.below b1) rfl (Tok.TZ.below hT1 b1) (Nat.lt_of_lt_of_le hg (Nat.le_trans hs1 b1.size)))
      | (go_at_call 19; (with_reducible refine cL.mono ?_); rintro e2 w2 ⟨rfl, b2⟩))
    go_ret
    exact ⟨rfl, Below.then (Below.then bw b1) b2⟩
  · have e1 : (x != 0) = true := by simpa using h0
    have e2 : (x == 0) = false := by simpa using h0
    rw [if_neg h0] at hL2
    subst hL2
    obtain ⟨p0, p1, p2, p3, -⟩ := q0.cells
    clear hx hL R hA h LP h0
    go_enter Tryd.func9, Tryd.ntmps9
    go_wp2_with (go_at_call 18; (with_reducible refine cR.mono ?_); rintro e1 w1 ⟨rfl, b1⟩)
    go_ret
    exact ⟨rfl, Below.then bw b1⟩
end Go.Proofs.YtngcahaidlgkfaaDoor.Shape
