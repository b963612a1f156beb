/-
  Layer 16: Apply of the program, for any two arrays.
-/
import Derived.Test.YtekbdiniibmhgaaBinP8g
namespace Go.Proofs.Ytekbdiniibmhgaa.Shape
open Go.RowKit
open Go.Proofs.Ytekbdiniibmhgaa.Shp (agB agL)
set_option linter.unusedVariables false
set_option linter.unusedSimpArgs false

theorem elem_fits {k x : Int} (hk : k = 1 ∨ k = 2) (h : elemB k x = true) : Num.fitsB x = true := by
  rcases hk with rfl | rfl
  · have h1 : numB x = true := by simpa [elemB] using h
    unfold numB at h1
    unfold Num.fitsB
    simpa using h1
  · have h1 : runeB x = true := by simpa [elemB] using h
    unfold runeB at h1
    unfold Num.fitsB
    simp only [Bool.and_eq_true, Bool.or_eq_true, decide_eq_true_eq] at h1 ⊢
    omega
theorem nums_facts {A : Arr} (h : rightE A = 0) (hk : A.kind ≠ 3) : (A.nums.length : Int) = pr A.shape ∧ ∀ x ∈ A.nums, Num.fitsB x = true := by
  obtain ⟨k, sh, nu, it⟩ := A
  have V := val_of h
  have hk' : ¬ k = 3 := hk
  have ka := V.kind
  have kb : k = 1 ∨ k = 2 := by omega
  refine ⟨?_, fun x hx => elem_fits kb (V.elems x hx)⟩
  have := V.size
  show (nu.length : Int) = pr sh
  simpa [aSize, Arr.kind, Arr.nums, kb] using this
theorem el_fits {A : Arr} {s : List Int} {j : Nat} (hr : rightB s = true) (h1 : s.take A.shape.length = A.shape) (hz : (A.nums.length : Int) = pr A.shape) (hf : ∀ x ∈ A.nums, Num.fitsB x = true) (hj : (j : Int) < pr s) : Num.fitsB (elF A s j) = true := by
  have := part_at hr h1 hj
  rw [← hz] at this
  have hm : j / (pr (s.drop A.shape.length)).toNat < A.nums.length := by omega
  unfold elF
  rw [List.getD_eq_getElem?_getD, List.getElem?_eq_getElem hm]
  exact hf _ (List.getElem_mem hm)
theorem resG_eq {p : Int} {A B : Arr} (hp : binB p = true) (hk : A.kind = B.kind) (hr : rightB (agL A.shape B.shape) = true) (p1 : (agL A.shape B.shape).take A.shape.length = A.shape) (p2 : (agL A.shape B.shape).take B.shape.length = B.shape)
    (hA : (A.nums.length : Int) = pr A.shape ∧ ∀ x ∈ A.nums, Num.fitsB x = true) (hB : (B.nums.length : Int) = pr B.shape ∧ ∀ x ∈ B.nums, Num.fitsB x = true) : resG (binV p) A B (agL A.shape B.shape) = resF p A B := by
  unfold resG resF
  refine goF_ext _ _ _ fun j _ hj => ?_
  rw [Nat.zero_add] at hj
  have hj' : (j : Int) < pr (agL A.shape B.shape) := by omega
  have e1 := el_fits hr p1 hA.1 hA.2 hj'
  have e2 := el_fits hr p2 hB.1 hB.2 hj'
  unfold binE
  rw [if_pos hk, binS_yes hp e1 e2]
theorem resG_ne {p : Int} {A B : Arr} (hp : p = 11 ∨ p = 12) (hk : ¬ A.kind = B.kind) (hr : rightB (agL A.shape B.shape) = true) (p1 : (agL A.shape B.shape).take A.shape.length = A.shape) (p2 : (agL A.shape B.shape).take B.shape.length = B.shape)
    (hA : (A.nums.length : Int) = pr A.shape ∧ ∀ x ∈ A.nums, Num.fitsB x = true) (hB : (B.nums.length : Int) = pr B.shape ∧ ∀ x ∈ B.nums, Num.fitsB x = true) : resG (fun _ _ => binV p 0 1) A B (agL A.shape B.shape) = resF p A B := by
  unfold resG resF
  refine goF_ext _ _ _ fun j _ hj => ?_
  rw [Nat.zero_add] at hj
  have hj' : (j : Int) < pr (agL A.shape B.shape) := by omega
  have e1 := el_fits hr p1 hA.1 hA.2 hj'
  have e2 := el_fits hr p2 hB.1 hB.2 hj'
  have hb : binB p = true := by rcases hp with rfl | rfl <;> rfl
  unfold binE
  rw [if_neg hk, binS_yes hb e1 e2]
  rcases hp with rfl | rfl <;> rfl
theorem acc_ne {p kx ky : Int} (h : accB p kx ky = true) (hk : ¬ kx = ky) : p = 11 ∨ p = 12 := by
  unfold accB at h
  rw [if_neg (by omega)] at h
  by_cases h2 : kx = 3 ∨ ky = 3
  · rw [if_pos h2] at h; cases h
  · rw [if_neg h2] at h
    by_cases h3 : p = 11 ∨ p = 12
    · exact h3
    · rw [if_neg h3, decide_eq_false hk] at h; cases h
theorem fits_bd {p x y : Int} (h1 : Num.fitsB x = true) (h2 : Num.fitsB y = true) : -9223372036854775808 ≤ (binV p x y).1 ∧ (binV p x y).1 ≤ 9223372036854775807 := by
  have := binV_bd (p := p) (Num.fits_def.1 h1) (Num.fits_def.1 h2)
  omega
theorem applyA_main {p : Int} {A B : Arr} {L : List Int × Int} (hp : binB p = true) (e1 : rightE A = 0) (e2 : rightE B = 0) (ha : accB p A.kind B.kind = true) (hg : agB A.shape B.shape = true) (hL : L = resF p A B) : applyA p A B = (if L.2 = 0 then (.mk 1 (agL A.shape B.shape) L.1 []) else zeroA, L.2) := by
  subst hL
  by_cases h : (resF p A B).2 = 0
  · rw [applyA_ok hp e1 e2 ha hg h, if_pos h, h]
  · rw [applyA_err hp e1 e2 ha hg h, if_neg h]; rfl
theorem applyP (p : Int) (v v2 : Value) (A B : Arr) (w : World) (h : ArrAt w v A) (g : ArrAt w v2 B) :
    Calls Try.prog 14 #[.int .i64 p, v, v2] w (GiveNewE (applyA p A B).1 (applyA p A B).2 w) := by
  by_cases hp : binB p = true
  · by_cases e1 : rightE A = 0
    · by_cases e2 : rightE B = 0
      · by_cases ha : accB p A.kind B.kind = true
        · by_cases hg : agB A.shape B.shape = true
          · have n1 := nums_facts e1 (acc_plain ha).1
            have n2 := nums_facts e2 (acc_plain ha).2
            obtain ⟨p1, p2, -, -, hr⟩ := ag_pre hg
            by_cases hk : A.kind = B.kind
            · rw [applyA_main hp e1 e2 ha hg (resG_eq hp hk hr p1 p2 n1 n2)]
              exact applyEP p v v2 A B w h g hp e1 e2 ha hg hk _ rfl n1.1 n2.1 n1.2 n2.2 fun x y h1 h2 => fits_bd h1 h2
            · rw [applyA_main hp e1 e2 ha hg (resG_ne (acc_ne ha hk) hk hr p1 p2 n1 n2)]
              exact applyUP p v v2 A B w h g hp e1 e2 ha hg hk _ rfl n1.1 n2.1 n1.2 n2.2 fun x y h1 h2 => fits_bd (by decide) (by decide)
          · rw [applyA_len hp e1 e2 ha (by simpa using hg)]
            exact applyLP p v v2 A B w h g hp e1 e2 ha (by simpa using hg)
        · rw [applyA_kind hp e1 e2 (by simpa using ha)]
          exact applyKP p v v2 A B w h g hp e1 e2 (by simpa using ha)
      · rw [applyA_arg (by simp [e2])]
        exact applyYP p v v2 A B w h g hp e1 e2
    · rw [applyA_arg (by simp [e1])]
      exact applyXP p v v2 A B w h g hp e1
  · rw [applyA_arg (by simp [hp])]
    exact applyNoP p v v2 A B w h g (by simpa using hp)
theorem applyP16 : ApplyOK := fun P p v v2 A B w hP h g _ _ => (applyP p v v2 A B w h.at g.at).mono fun _ _ hh => hh.gives hP
end Go.Proofs.Ytekbdiniibmhgaa.Shape
