/-
  Layer 16: a scalar stands for an array that is filled with it.
-/
import Derived.Test.YtekbdiniibmhgaaBinAppg
import Derived.Test.YtekbdiniibmhgaaBinValg
namespace Go.Proofs.Ytekbdiniibmhgaa.Shape
open Go.RowKit
open Go.Proofs.Ytekbdiniibmhgaa.Shp (agB agL)
set_option linter.unusedVariables false
set_option linter.unusedSimpArgs false

theorem plain_right {k : Int} {sh nu : List Int} (hk : k = 1 ∨ k = 2) (hd : dimsE sh = 0) (hl : (nu.length : Int) = pr sh) (he : ∀ x ∈ nu, elemB k x = true) (hp : pr sh ≤ 65536) : rightE (.mk k sh nu []) = 0 := by
  have hz : aSize (.mk k sh nu []) = nu.length := by unfold aSize; rw [if_pos (show (Arr.mk k sh nu []).kind = 1 ∨ (Arr.mk k sh nu []).kind = 2 from hk)]; rfl
  have ho : other k nu [] = 0 := by rw [other, if_neg (by omega)]; rfl
  have hw : wt (.mk k sh nu []) = min (nu.length : Int) 262145 := by
    rw [wt, if_neg (by omega), hz, Int.add_zero]
  rw [rightE, chk_rest (by omega) hd (by rw [hz, ho]; omega) (by rw [List.all_eq_true]; exact he), show chkL 0 [] = some 0 from rfl]
  show (lastE 0 (wt (.mk k sh nu []))).1 = 0
  rw [lastE, if_neg (by rw [hw]; omega)]
theorem ag_self {s : List Int} (h : rightB s = true) : agB s s = true ∧ agL s s = s := by
  have e : agB s s = true := by unfold agB Shp.sameB; rw [h]; simp
  exact ⟨e, by rw [agL, if_pos e, if_pos (Nat.le_refl _)]⟩
theorem ag_nil {s : List Int} (h : rightB s = true) : agB [] s = true ∧ agL [] s = s := by
  have e : agB [] s = true := by
    unfold agB Shp.sameB
    rw [h, show rightB [] = true by decide]
    simp
  refine ⟨e, ?_⟩
  rw [agL, if_pos e]
  by_cases hs : s.length ≤ ([] : List Int).length
  · rw [if_pos hs]
    exact (List.eq_nil_of_length_eq_zero (by simpa using hs)).symm
  · rw [if_neg hs]
theorem el_scalar {k v : Int} {s : List Int} {i : Nat} (hi : i < (pr s).toNat) : elF (.mk k [] [v] []) s i = v := by
  unfold elF
  show [v].getD (i / (pr (s.drop 0)).toNat) 0 = v
  rw [List.drop_zero, Nat.div_eq_of_lt hi]
  rfl
theorem el_full {k v : Int} {s : List Int} {i n : Nat} (hi : i < n) : elF (.mk k s (List.replicate n v) []) s i = v := by
  unfold elF
  show (List.replicate n v).getD (i / (pr (s.drop s.length)).toNat) 0 = v
  rw [List.drop_length]
  show (List.replicate n v).getD (i / (1 : Int).toNat) 0 = v
  rw [show (1 : Int).toNat = 1 from rfl, Nat.div_one, List.getD_eq_getElem?_getD, List.getElem?_replicate, if_pos hi]
  rfl
/-- The array of B's shape that is filled with v. -/
def fullA (k v : Int) (B : Arr) : Arr := .mk k B.shape (List.replicate (B.nums.length + B.items.length) v) []
theorem full_size {B : Arr} (h : rightE B = 0) : (((B.nums.length + B.items.length : Nat)) : Int) = pr B.shape ∧ dimsE B.shape = 0 := by
  obtain ⟨k, sh, nu, it⟩ := B
  have V := val_of h
  refine ⟨?_, V.dims⟩
  have hs := V.size
  show (((nu.length + it.length : Nat)) : Int) = pr sh
  rw [← hs]
  unfold aSize
  by_cases h3 : k = 3
  · subst h3
    have := V.boxed rfl
    subst this
    simp [Arr.kind, Arr.nums, Arr.items]
  · have hk := V.kind
    have := V.plain h3
    subst this
    have h12 : k = 1 ∨ k = 2 := by omega
    rcases h12 with rfl | rfl <;> simp [Arr.kind, Arr.nums, Arr.items]
theorem full_right {k v : Int} {B : Arr} (hk : k = 1 ∨ k = 2) (he : elemB k v = true) (h : rightE B = 0) : rightE (fullA k v B) = 0 := by
  obtain ⟨h1, h2⟩ := full_size h
  have hr := (dimsE_right _).1 h2
  have hd : pr B.shape ≤ 65536 := by
    have a := (right_def.1 hr).2.2
    have b := pr_le_nz (right_def.1 hr).2.1
    omega
  exact plain_right hk h2 (by rw [List.length_replicate]; exact h1) (fun x hx => by rw [List.mem_replicate] at hx; rw [hx.2]; exact he) hd
/-- A scalar on the left. -/
theorem ext_left {p k v : Int} {B : Arr} (hA : rightE (.mk k [] [v] []) = 0) (hk : k = 1 ∨ k = 2) (h : rightE B = 0) : applyA p (.mk k [] [v] []) B = applyA p (fullA k v B) B := by
  have he := (val_of hA).elems v (by simp)
  have hz := full_right hk he h
  obtain ⟨h1, h2⟩ := full_size h
  have hr := (dimsE_right _).1 h2
  obtain ⟨a1, a2⟩ := ag_nil hr
  obtain ⟨b1, b2⟩ := ag_self hr
  have er : resF p (.mk k [] [v] []) B = resF p (fullA k v B) B := by
    unfold resF
    show goF (fun i => binE p k B.kind (elF (.mk k [] [v] []) (agL [] B.shape) i) (elF B (agL [] B.shape) i)) (pr (agL [] B.shape)).toNat 0 [] = goF (fun i => binE p k B.kind (elF (fullA k v B) (agL B.shape B.shape) i) (elF B (agL B.shape B.shape) i)) (pr (agL B.shape B.shape)).toNat 0 []
    rw [a2, b2]
    refine goF_ext _ _ _ fun j _ hj => ?_
    rw [Nat.zero_add] at hj
    rw [el_scalar hj, show elF (fullA k v B) B.shape j = v from el_full (by omega)]
  unfold applyA
  rw [er, hA, hz]
  show (if _ then if accB p k B.kind = true then if agB [] B.shape = true then if _ then (Arr.mk 1 (agL [] B.shape) _ [], (0 : Int)) else _ else _ else _ else _) = (if _ then if accB p k B.kind = true then if agB B.shape B.shape = true then if _ then (Arr.mk 1 (agL B.shape B.shape) _ [], (0 : Int)) else _ else _ else _ else _)
  rw [a1, a2, b1, b2]
/-- A scalar on the right. -/
theorem ext_right {p k v : Int} {B : Arr} (hA : rightE (.mk k [] [v] []) = 0) (hk : k = 1 ∨ k = 2) (h : rightE B = 0) : applyA p B (.mk k [] [v] []) = applyA p B (fullA k v B) := by
  have he := (val_of hA).elems v (by simp)
  have hz := full_right hk he h
  obtain ⟨h1, h2⟩ := full_size h
  have hr := (dimsE_right _).1 h2
  obtain ⟨a1, a2⟩ := ag_nil hr
  rw [agB_comm] at a1
  rw [agL_comm] at a2
  obtain ⟨b1, b2⟩ := ag_self hr
  have er : resF p B (.mk k [] [v] []) = resF p B (fullA k v B) := by
    unfold resF
    show goF (fun i => binE p B.kind k (elF B (agL B.shape []) i) (elF (.mk k [] [v] []) (agL B.shape []) i)) (pr (agL B.shape [])).toNat 0 [] = goF (fun i => binE p B.kind k (elF B (agL B.shape B.shape) i) (elF (fullA k v B) (agL B.shape B.shape) i)) (pr (agL B.shape B.shape)).toNat 0 []
    rw [a2, b2]
    refine goF_ext _ _ _ fun j _ hj => ?_
    rw [Nat.zero_add] at hj
    rw [el_scalar hj, show elF (fullA k v B) B.shape j = v from el_full (by omega)]
  unfold applyA
  rw [er, hA, hz]
  show (if _ then if accB p B.kind k = true then if agB B.shape [] = true then if _ then (Arr.mk 1 (agL B.shape []) _ [], (0 : Int)) else _ else _ else _ else _) = (if _ then if accB p B.kind k = true then if agB B.shape B.shape = true then if _ then (Arr.mk 1 (agL B.shape B.shape) _ [], (0 : Int)) else _ else _ else _ else _)
  rw [a1, a2, b1, b2]
end Go.Proofs.Ytekbdiniibmhgaa.Shape
