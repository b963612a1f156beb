/-
  Layer 5: the reference's literal of scalars and of vectors that stand alone.
  Layer 5: what a valid array of few elements is, for its literal: its parts, and how long the literal is.
-/
import Derived.Test.YtghmbmjikkdbnaaGreatDoorCd10
import Derived.Test.YtghmbmjikkdbnaaGreatDoorCd1
import Derived.Test.YtghmbmjikkdbnaaGreatDoorCd4
namespace Go.Proofs.YtghmbmjikkdbnaaGreatDoor.Shape
open Go.RowKit Go.Proofs.YtghmbmjikkdbnaaGreatDoor.Num
set_option linter.unusedVariables false
/-- The scalar texts of the elements. -/
def elsT (A : Arr) : List (List UInt8) := if A.kind = 3 then litsS A.items else A.nums.map fun x => if A.kind = 2 then 39 :: (chS x 39 ++ [39]) else shL x
theorem litS_els : ∀ (A : Arr), litS A = litT A.kind A.shape A.nums (elsT A)
  | .mk k sh nu it => by rw [litS]; rfl
/-- What the walk of literal asks of an array. -/
structure LitOK (A : Arr) : Prop where
  kind : 1 ≤ A.kind ∧ A.kind ≤ 3
  chars : A.kind = 2 → ∀ x ∈ A.nums, 0 ≤ x ∧ x ≤ 1114111
  nums : A.nums.length ≤ 70000
  few : A.kind = 3 → A.items.length ≤ 400
  one : A.shape.length = 0 → 1 ≤ aSize A
  items : A.kind = 3 → ∀ j (hj : j < A.items.length), (litS A.items[j]).length ≤ 200000 ∧ ∀ v' w', ArrAt w' v' A.items[j] → Calls Tryz.prog 113 #[v'] w' fun e w2 => e = .returned (.string (litB A.items[j])) ∧ Below w'.heap.size w' w2
theorem size3 {A : Arr} (h : A.kind = 3) : aSize A = A.items.length := by rw [aSize, if_neg (by omega), if_pos h]
theorem size12 {A : Arr} (h : A.kind ≠ 3) (hk : 1 ≤ A.kind ∧ A.kind ≤ 3) : aSize A = A.nums.length := by rw [aSize, if_pos (by omega)]
theorem els_len {A : Arr} (hk : 1 ≤ A.kind ∧ A.kind ≤ 3) : (elsT A).length = aSize A := by
  rw [elsT]
  split
  · rename_i h; rw [litsS_len, size3 h]
  · rename_i h; rw [List.length_map, size12 h hk]
end Go.Proofs.YtghmbmjikkdbnaaGreatDoor.Shape

namespace Go.Proofs.YtghmbmjikkdbnaaGreatDoor.Shape
open Go.RowKit Go.Proofs.YtghmbmjikkdbnaaGreatDoor.Num
set_option linter.unusedVariables false
set_option linter.unusedSimpArgs false
set_option maxRecDepth 100000
theorem chkL_all : ∀ (l : List Arr) (d e : Int), chkL d l = some e → ∀ j (hj : j < l.length), (chk l[j]).1 = 0
  | [], d, e, h, j, hj => absurd hj (by simp)
  | A :: r, d, e, h, j, hj => by
    rw [chkL] at h
    split at h
    · cases h
    · rename_i h0
      cases j with
      | zero => simpa using h0
      | succ j =>
        have := chkL_all r _ e h j (by simpa using hj)
        simpa using this
/-- The parts of a valid array. -/
structure Val (k : Int) (sh nu : List Int) (it : List Arr) : Prop where
  kind : 1 ≤ k ∧ k ≤ 3
  dims : dimsE sh = 0
  size : (aSize (.mk k sh nu it) : Int) = pr sh
  plain : k ≠ 3 → it = []
  boxed : k = 3 → nu = []
  elems : ∀ x ∈ nu, elemB k x = true
  items : ∀ j (hj : j < it.length), rightE it[j] = 0
theorem val_of {k : Int} {sh nu : List Int} {it : List Arr} (h : rightE (.mk k sh nu it) = 0) : Val k sh nu it := by
  rw [rightE, chk] at h
  split at h
  · simp at h
  rename_i hk
  split at h
  · rename_i hd; exact absurd h hd
  rename_i hd
  split at h
  · simp at h
  rename_i hl
  split at h
  · simp at h
  rename_i he
  split at h
  · simp at h
  rename_i d hc
  have ho : other k nu it = 0 := by omega
  refine ⟨by omega, by simpa using hd, Classical.byContradiction fun q => hl (Or.inl q), fun q => ?_, fun q => ?_, fun x hx => ?_, fun j hj => chkL_all it 0 d hc j hj⟩
  · rw [other, if_neg q] at ho; exact List.eq_nil_of_length_eq_zero ho
  · rw [other, if_pos q] at ho; exact List.eq_nil_of_length_eq_zero ho
  · have ha : nu.all (elemB k) = true := by simpa using he
    exact List.all_eq_true.1 ha x hx
theorem dims_parts {sh : List Int} (h : dimsE sh = 0) : sh.length ≤ 8 ∧ NN sh ∧ nz sh ≤ 65536 := by
  unfold dimsE at h
  split at h
  · cases h
  split at h
  · split at h
    · exact ⟨by omega, by assumption, by assumption⟩
    · cases h
  · cases h
theorem nz_one : ∀ {sh : List Int}, NN sh → 1 ≤ nz sh
  | [], _ => by rw [nz]; decide
  | x :: r, h => by
    have h1 := nz_one (sh := r) fun y hy => h y (List.mem_cons_of_mem _ hy)
    have h0 : 0 ≤ x := h x (by simp)
    rw [nz]
    split
    · rw [Int.one_mul]; exact h1
    · exact Int.le_trans (by omega : (1 : Int) ≤ 1 * 1) (Int.mul_le_mul (by omega) h1 (by decide) h0)
theorem nz_ge : ∀ {sh : List Int}, NN sh → ∀ x ∈ sh, x ≤ nz sh
  | [], _, x, hx => by cases hx
  | y :: r, h, x, hx => by
    have hr : NN r := fun z hz => h z (List.mem_cons_of_mem _ hz)
    have h1 := nz_one hr
    have h0 : 0 ≤ y := h y (by simp)
    rw [nz]
    rcases List.mem_cons.1 hx with rfl | hx
    · split
      · rename_i e; rw [e, Int.one_mul]; omega
      · exact Int.le_trans (by rw [Int.mul_one]; exact Int.le_refl _) (Int.mul_le_mul_of_nonneg_left h1 h0)
    · have h2 := nz_ge hr x hx
      split
      · rw [Int.one_mul]; exact h2
      · have : 1 * nz r ≤ y * nz r := Int.mul_le_mul_of_nonneg_right (by omega) (by omega)
        rw [Int.one_mul] at this
        omega
theorem jn_short {sh : List Int} (h : dimsE sh = 0) : (jn sh).length ≤ 168 := by
  obtain ⟨h1, h2, h3⟩ := dims_parts h
  rw [jn_blank]
  have := blank_len 20 (sh.map shL) (fun x hx => by
    obtain ⟨y, hy, rfl⟩ := List.mem_map.1 hx
    have a := h2 y hy
    have b := nz_ge h2 y hy
    exact shL_len (by omega) (by omega))
  rw [List.length_map] at this
  omega
/-- The lengths of texts, with one more for each. -/
def totL : List (List UInt8) → Nat
  | [] => 0
  | x :: r => x.length + 1 + totL r
theorem blank_tot : ∀ (l : List (List UInt8)), (blankS l).length ≤ totL l
  | [] => by simp [blankS, totL]
  | x :: r => by
    have go : ∀ (r : List (List UInt8)), ((r.map fun y => 32 :: y).flatten).length ≤ totL r := fun r => by
      induction r with
      | nil => simp [totL]
      | cons y r ih => rw [List.map_cons, List.flatten_cons, List.length_append, totL, List.length_cons]; omega
    have := go r
    rw [blankS, List.length_append, totL]; omega
theorem lits_tot : ∀ (it : List Arr), (∀ j (hj : j < it.length), (litS it[j]).length ≤ 220 + 250 * (wt it[j]).toNat) → totL ((litsS it).map fun t => 40 :: (t ++ [41])) ≤ 240 * it.length + 250 * (sumW it).toNat
  | [], _ => by simp [litsS, totL]
  | A :: r, h => by
    have h0 := h 0 (by simp)
    have h1 := lits_tot r fun j hj => by
      have := h (j + 1) (by simpa using hj)
      simpa using this
    have w0 := wt_nn A
    have w1 := sumW_nn r
    simp only [List.getElem_cons_zero] at h0
    rw [litsS, List.map_cons, totL, sumW, List.length_cons, List.length_cons, List.length_append]
    simp only [List.length_cons, List.length_nil]
    omega
theorem sumW_ge : ∀ {it : List Arr} {j : Nat} (hj : j < it.length), wt it[j] ≤ sumW it
  | [], j, hj => absurd hj (by simp)
  | A :: r, 0, _ => by have := sumW_nn r; simp only [List.getElem_cons_zero, sumW]; omega
  | A :: r, j + 1, hj => by
    have := sumW_ge (it := r) (j := j) (by simpa using hj)
    have := wt_nn A
    simp only [List.getElem_cons_succ, sumW]; omega
theorem wt_few {k : Int} {sh nu : List Int} {it : List Arr} (h : wt (.mk k sh nu it) ≤ 400) : wt (.mk k sh nu it) = (aSize (.mk k sh nu it) : Int) + (if k = 3 then sumW it else 0) := by
  rw [wt] at h ⊢
  omega
theorem fill_len (k : Int) : (fillT k).length ≤ 15 := by
  unfold fillT
  split
  · decide
  split
  · decide
  · decide
theorem ints_tot : ∀ (nu : List Int), (∀ x ∈ nu, elemB 1 x = true) → totL (nu.map shL) ≤ 21 * nu.length
  | [], _ => by simp [totL]
  | x :: r, h => by
    have h1 := ints_tot r fun y hy => h y (List.mem_cons_of_mem _ hy)
    have h0 := h x (by simp)
    have hb : numB x = true := by simpa [elemB] using h0
    have hb2 := of_decide_eq_true hb
    have := shL_len (x := x) (by omega) (by omega)
    rw [List.map_cons, totL, List.length_cons]; omega
theorem chars_bd {nu : List Int} (h : ∀ x ∈ nu, elemB 2 x = true) : ∀ x ∈ nu, 0 ≤ x ∧ x ≤ 1114111 := fun x hx => by
  have h0 := h x hx
  have hb : runeB x = true := by simpa [elemB] using h0
  have hb2 := of_decide_eq_true hb
  omega
theorem quo_tot : ∀ (nu : List Int), (∀ x ∈ nu, 0 ≤ x ∧ x ≤ 1114111) → ((nu.map fun c => chS c 34).flatten).length ≤ 12 * nu.length
  | [], _ => by simp
  | x :: r, h => by
    have h1 := quo_tot r fun y hy => h y (List.mem_cons_of_mem _ hy)
    have h0 := chS_len x 34 (h x (by simp)).2
    rw [List.map_cons, List.flatten_cons, List.length_append, List.length_cons]; omega
theorem head_le : ∀ (l : List (List UInt8)), (l.headD []).length ≤ totL l
  | [] => by simp [totL]
  | x :: r => by simp [totL]; omega
theorem litT_len {k : Int} {sh nu : List Int} {E : List (List UInt8)} {m : Nat} (hjn : (jn sh).length ≤ 168) (hfl : (fillT k).length ≤ 15) (h1 : (vecS k nu E).length ≤ 2 + m) (h2 : (E.headD []).length ≤ 20 + m) : (litT k sh nu E).length ≤ 220 + m := by
  have hres : reS.length = 9 := rfl
  unfold litT
  generalize vecS k nu E = V1 at *
  generalize E.headD [] = V2 at *
  by_cases h0 : sh.length = 0
  · rw [if_pos h0]; omega
  rw [if_neg h0]
  by_cases h1 : sh.length = 1 ∧ (k = 2 ∨ 2 ≤ E.length)
  · rw [if_pos h1]; omega
  rw [if_neg h1, List.length_append, List.length_append]
  by_cases h2 : E.length = 0
  · rw [if_pos h2]; omega
  rw [if_neg h2]
  by_cases h3 : E.length = 1
  · rw [if_pos h3]; omega
  · rw [if_neg h3]; omega
/-- How long a literal is. -/
theorem lit_len (n : Nat) : ∀ (A : Arr), rk A ≤ n → rightE A = 0 → wt A ≤ 400 → (litS A).length ≤ 220 + 250 * (wt A).toNat := by
  induction n with
  | zero => intro A h; exact absurd h (by obtain ⟨k, sh, nu, it⟩ := A; rw [rk]; omega)
  | succ n ih =>
    intro A hrk hx hw
    obtain ⟨k, sh, nu, it⟩ := A
    have V := val_of hx
    have hwp := wt_few hw
    have hel := els_len (A := .mk k sh nu it) (by simpa [Arr.kind] using V.kind)
    obtain ⟨N, hN⟩ : ∃ N, aSize (.mk k sh nu it) = N := ⟨_, rfl⟩
    rw [hN] at hwp hel
    have hsw := sumW_nn it
    have hjn := jn_short V.dims
    have hfl := fill_len k
    have hk := V.kind
    -- what the elements take
    have hE : (vecS k nu (elsT (.mk k sh nu it))).length ≤ 2 + 250 * (wt (.mk k sh nu it)).toNat ∧ ((elsT (.mk k sh nu it)).headD []).length ≤ 20 + 250 * (wt (.mk k sh nu it)).toNat := by
      rcases (by omega : k = 1 ∨ k = 2 ∨ k = 3) with rfl | rfl | rfl
      · have hn : N = nu.length := by rw [← hN]; exact size12 (A := .mk 1 sh nu it) (by simp [Arr.kind]) (by simp [Arr.kind])
        have e : elsT (.mk 1 sh nu it) = nu.map shL := by simp [elsT, Arr.kind, Arr.nums]
        have ev : vecS 1 nu (nu.map shL) = blankS (nu.map shL) := by rw [vecS, if_neg (by decide), if_neg (by decide)]
        have h1 := ints_tot nu V.elems
        have h2 := blank_tot (nu.map shL)
        have h3 := head_le (nu.map shL)
        rw [if_neg (by decide)] at hwp
        rw [e, ev]
        omega
      · have hn : N = nu.length := by rw [← hN]; exact size12 (A := .mk 2 sh nu it) (by simp [Arr.kind]) (by simp [Arr.kind])
        have ev : vecS 2 nu (elsT (.mk 2 sh nu it)) = quoS nu := by rw [vecS, if_pos rfl]
        have hb := chars_bd V.elems
        have h1 := quo_tot nu hb
        rw [if_neg (by decide)] at hwp
        rw [ev]
        refine ⟨by rw [quoS, List.length_cons, List.length_append]; simp only [List.length_cons, List.length_nil]; omega, ?_⟩
        have e : elsT (.mk 2 sh nu it) = nu.map fun x => 39 :: (chS x 39 ++ [39]) := by simp [elsT, Arr.kind, Arr.nums]
        rw [e]
        cases nu with
        | nil => simp
        | cons x r =>
          have := chS_len x 39 (hb x (by simp)).2
          simp only [List.map_cons, List.headD_cons, List.length_cons, List.length_append, List.length_nil]
          omega
      · have hn : N = it.length := by rw [← hN]; exact size3 (A := .mk 3 sh nu it) rfl
        have e : elsT (.mk 3 sh nu it) = litsS it := by simp [elsT, Arr.kind, Arr.items]
        have ev : vecS 3 nu (litsS it) = blankS ((litsS it).map fun t => 40 :: (t ++ [41])) := by rw [vecS, if_neg (by decide), if_pos rfl]
        rw [if_pos rfl] at hwp
        have hB : ∀ j (hj : j < it.length), (litS it[j]).length ≤ 220 + 250 * (wt it[j]).toNat := fun j hj => by
          have hj2 := sumW_ge hj
          exact ih _ (by have := rk_item (k := 3) (sh := sh) (nu := nu) hj; omega) (V.items j hj) (by omega)
        have h1 := lits_tot it hB
        have h2 := blank_tot ((litsS it).map fun t => 40 :: (t ++ [41]))
        rw [e, ev]
        refine ⟨by omega, ?_⟩
        cases it with
        | nil => simp [litsS]
        | cons B r =>
          have := hB 0 (by simp)
          have hB0 := sumW_ge (it := B :: r) (j := 0) (by simp)
          have hw0 := wt_nn B
          simp only [List.getElem_cons_zero] at this hB0
          simp only [litsS, List.headD_cons, List.length_cons] at *
          omega
    rw [litS_els]
    show (litT k sh nu (elsT (.mk k sh nu it))).length ≤ _
    exact litT_len hjn hfl hE.1 hE.2
end Go.Proofs.YtghmbmjikkdbnaaGreatDoor.Shape
