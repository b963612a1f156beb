/-
  Layer 3: what makes an array valid, as plain functions: the first error, and the depth of the boxes.
-/
import Derived.Test.YtngcahaidlgkfaaDoorArrWeight
import Derived.Test.YtngcahaidlgkfaaDoorArrDims
namespace Go.Proofs.YtngcahaidlgkfaaDoor.Shape

/-- Is n an element of an array of kind k? -/
def elemB (k n : Int) : Bool := !((k == 1 && !numB n) || (k == 2 && !runeB n))
/-- What the other field's length must be: 0. -/
def other (k : Int) (nu : List Int) (it : List Arr) : Nat := if k = 3 then nu.length else it.length
def lastE (d w : Int) : Int × Int := if 16 < d ∨ 262144 < w then (21, 0) else (0, d)
mutual
/-- The first error of an array and, if there is none, its depth. -/
def chk : Arr → Int × Int
  | .mk k sh nu it =>
    if k < 1 ∨ 3 < k then (14, 0)
    else if dimsE sh ≠ 0 then (dimsE sh, 0)
    else if (aSize (.mk k sh nu it) : Int) ≠ pr sh ∨ 0 < other k nu it then (16, 0)
    else if nu.all (elemB k) = false then (17, 0)
    else match chkL 0 it with
      | none => (17, 0)
      | some d => lastE d (wt (.mk k sh nu it))
def chkL (d : Int) : List Arr → Option Int
  | [] => some d
  | A :: r => if (chk A).1 ≠ 0 then none else chkL (max d ((chk A).2 + 1)) r
end

theorem chk_kind {k : Int} {sh nu : List Int} {it : List Arr} (h : k < 1 ∨ 3 < k) : chk (.mk k sh nu it) = (14, 0) := by rw [chk, if_pos h]
theorem chk_dims {k : Int} {sh nu : List Int} {it : List Arr} (h : ¬ (k < 1 ∨ 3 < k)) (hd : dimsE sh ≠ 0) : chk (.mk k sh nu it) = (dimsE sh, 0) := by rw [chk, if_neg h, if_pos hd]
theorem chk_len {k : Int} {sh nu : List Int} {it : List Arr} (h : ¬ (k < 1 ∨ 3 < k)) (hd : dimsE sh = 0) (hl : (aSize (.mk k sh nu it) : Int) ≠ pr sh ∨ 0 < other k nu it) : chk (.mk k sh nu it) = (16, 0) := by
  rw [chk, if_neg h, if_neg (by simpa using hd), if_pos hl]
theorem chk_elem {k : Int} {sh nu : List Int} {it : List Arr} (h : ¬ (k < 1 ∨ 3 < k)) (hd : dimsE sh = 0) (hl : ¬ ((aSize (.mk k sh nu it) : Int) ≠ pr sh ∨ 0 < other k nu it)) (he : nu.all (elemB k) = false) : chk (.mk k sh nu it) = (17, 0) := by
  rw [chk, if_neg h, if_neg (by simpa using hd), if_neg hl, if_pos he]
theorem chk_rest {k : Int} {sh nu : List Int} {it : List Arr} (h : ¬ (k < 1 ∨ 3 < k)) (hd : dimsE sh = 0) (hl : ¬ ((aSize (.mk k sh nu it) : Int) ≠ pr sh ∨ 0 < other k nu it)) (he : nu.all (elemB k) = true) :
    chk (.mk k sh nu it) = match chkL 0 it with | none => (17, 0) | some d => lastE d (wt (.mk k sh nu it)) := by
  rw [chk, if_neg h, if_neg (by simpa using hd), if_neg hl, if_neg (by rw [he]; simp)]
theorem lastE_bd (d w : Int) (h : 0 ≤ d) : 0 ≤ (lastE d w).2 ∧ (lastE d w).2 ≤ 16 := by
  unfold lastE; split
  · exact ⟨Int.le_refl _, by decide⟩
  · show 0 ≤ d ∧ d ≤ 16; omega
theorem chkL_nn : ∀ (l : List Arr) (d e : Int), 0 ≤ d → chkL d l = some e → 0 ≤ e
  | [], d, e, h, g => by simp only [chkL, Option.some.injEq] at g; omega
  | A :: r, d, e, h, g => by
    rw [chkL] at g
    split at g
    · cases g
    · exact chkL_nn r _ e (by omega) g
theorem chk_bd (A : Arr) : 0 ≤ (chk A).2 ∧ (chk A).2 ≤ 16 := by
  obtain ⟨k, sh, nu, it⟩ := A
  rw [chk]
  split
  · exact ⟨Int.le_refl _, by show (0 : Int) ≤ 16; decide⟩
  · split
    · exact ⟨Int.le_refl _, by show (0 : Int) ≤ 16; decide⟩
    · split
      · exact ⟨Int.le_refl _, by show (0 : Int) ≤ 16; decide⟩
      · split
        · exact ⟨Int.le_refl _, by show (0 : Int) ≤ 16; decide⟩
        · split
          · exact ⟨Int.le_refl _, by show (0 : Int) ≤ 16; decide⟩
          · rename_i d hd; exact lastE_bd _ _ (chkL_nn it 0 d (Int.le_refl _) hd)
theorem chkL_bad {l : List Arr} {j : Nat} {d : Int} (h : j < l.length) (hb : (chk l[j]).1 ≠ 0) : chkL d (l.drop j) = none := by
  rw [List.drop_eq_getElem_cons h, chkL, if_pos hb]
theorem chkL_step {l : List Arr} {j : Nat} {d : Int} (h : j < l.length) (hb : (chk l[j]).1 = 0) : chkL d (l.drop j) = chkL (max d ((chk l[j]).2 + 1)) (l.drop (j + 1)) := by
  rw [List.drop_eq_getElem_cons h, chkL, if_neg (by simpa using hb)]
theorem chkL_end {l : List Arr} {j : Nat} {d : Int} (h : ¬ j < l.length) : chkL d (l.drop j) = some d := by
  rw [List.drop_eq_nil_of_le (by omega), chkL]
theorem all_bad {k : Int} {nu : List Int} {j : Nat} (h : j < nu.length) (hb : elemB k nu[j] = false) : nu.all (elemB k) = false := by
  rw [List.all_eq_false]; exact ⟨nu[j], List.getElem_mem h, by rw [hb]; simp⟩
theorem all_take {k : Int} {nu : List Int} {j : Nat} (h : j < nu.length) (ha : (nu.take j).all (elemB k) = true) (hb : elemB k nu[j] = true) : (nu.take (j + 1)).all (elemB k) = true := by
  rw [List.take_succ_eq_append_getElem h, List.all_append, ha]; simp [hb]
theorem max_left' {d e : Int} (h : e ≤ d) : max d e = d := by omega
theorem max_right' {d e : Int} (h : ¬ e ≤ d) : max d e = e := by omega
end Go.Proofs.YtngcahaidlgkfaaDoor.Shape
